/- What the program's ParseInt answers. Conditions: none beyond each theorem's own. What the program's parseNumbers answers. Conditions: none beyond each theorem's own. What the two functions FormatFact answer. Conditions: none beyond each theorem's own. What the two functions FormatFact answer. Conditions: none beyond each theorem's own. What parseParts answers with ParseInt. Conditions: none beyond each theorem's own. What the program's ParseFact answers. Conditions: none beyond each theorem's own. What the model's l2Cut, l2Num and l2Rel answer. Conditions: none beyond each theorem's own. -/
import Derived.Test.YtfhlmindkogdoaaGreatDoorPq3
import Derived.Laws.RangeAny
import Derived.Test.YtfhlmindkogdoaaGreatDoorPq2
import Derived.Lib.QuietBelow

namespace Go.Proofs.YtfhlmindkogdoaaGreatDoor
open Go.ChangeShapes Go.WideShapes Go.ChangeAt Go.RowKit
set_option linter.unusedVariables false

theorem pn_le9 (s : ByteArray) {i : Nat} (h : i ≤ 9) : pn s i ≤ 999999999 := by
  have h1 := pn_lt s i
  have h2 : 10 ^ i ≤ 10 ^ 9 := Nat.pow_le_pow_right (by omega) h
  have h3 : 10 ^ 9 = 1000000000 := by decide
  omega
theorem trim_at (s t : ByteArray) (et : (⟨(Lib.trimPrefix s.data.toList (⟨#[45]⟩ : ByteArray).data.toList).toArray⟩ : ByteArray) = t) (W : World) :
    Calls Tryz.prog 104 #[.string s, .string ⟨#[45]⟩] W fun e w' => e = .returned (.string t) ∧ W = w' := by
  refine (Tryz.strings_TrimPrefix s ⟨#[45]⟩ W).mono ?_
  rintro e w' ⟨rfl, rfl⟩
  exact ⟨ret_str et, rfl⟩

set_option maxRecDepth 100000 in
set_option maxHeartbeats 400000 in
theorem impl_ParseInt_long (s t : ByteArray) (d : Nat) (et : (⟨(Lib.trimPrefix s.data.toList (⟨#[45]⟩ : ByteArray).data.toList).toArray⟩ : ByteArray) = t) (c : Cut s t d) (hm : s.size ≤ 1048576) (hl : 9 < t.size) (w : World) :
    Calls Tryz.prog 102 #[.string s] w fun e w' => e = .returned (.tuple #[.int .i64 (parN s), .bool (parB s)]) ∧ Below w.heap.size w w' := by
  have TP := Lib.hid (trim_at s t et)
  have E := Lib.hid (par_no (c.long hl))
  have hts : t.size ≤ 1048576 := by have := c.size; omega
  clear et c
  go_enter Tryz.func102, Tryz.ntmps102
  go_wp2_with (go_at_call 104; refine (TP.out _).mono ?_; rintro e w' ⟨rfl, rfl⟩)
  go_ret2
  exact ⟨ret_ib E.out.2.symm E.out.1.symm, Below.refl _ _⟩

set_option maxRecDepth 100000 in
set_option maxHeartbeats 400000 in
theorem impl_ParseInt_short (s t : ByteArray) (d : Nat) (et : (⟨(Lib.trimPrefix s.data.toList (⟨#[45]⟩ : ByteArray).data.toList).toArray⟩ : ByteArray) = t) (c : Cut s t d) (hm : s.size ≤ 1048576) (hl : t.size ≤ 9) (w : World) (ht : Tab w) :
    Calls Tryz.prog 102 #[.string s] w fun e w' => e = .returned (.tuple #[.int .i64 (parN s), .bool (parB s)]) ∧ Below w.heap.size w w' := by
  have TP := Lib.hid (trim_at s t et)
  have HT := Lib.hid (Lib.tabBelow_of_tabIs ht)
  have C := Lib.hid c
  clear et ht c
  go_enter Tryz.func102, Tryz.ntmps102
  go_wp2_with (go_at_call 104; refine (TP.out _).mono ?_; rintro e w' ⟨rfl, rfl⟩)
  go_loopw [5] (fun n wr => ∃ pos : Nat, pos ≤ t.size ∧ wr = w.iter t pos ∧ n = .int .i64 (pn t pos) ∧ Hid (∀ j, j < pos → isD (bn t j))) (fun _ wr => t.size - wr.iterPos w.heap.size)
  case atStart => exact ⟨0, by omega, rfl, rfl, Lib.hid (by omega)⟩
  case round =>
    obtain ⟨pos, hp, rfl, rfl, hH⟩ := hrel
    have hn := pn_le9 t (show pos ≤ 9 by omega)
    have hn' : ((pn t pos : Nat) : Int) ≤ 999999999 := by omega
    clear hn
    by_cases hlt : pos < t.size
    · have hb := bn_le t pos
      have hg := get_bn t pos hlt
      by_cases hlow : bn t pos < 128
      · have hnx := fun ty => run_next_ascii (P := Tryz.prog) w t pos ty hlt (by rw [hg]; exact hlow)
        rw [hg] at hnx
        clear hg
        by_cases hd : isD (bn t pos)
        · have P := Lib.hid (pn_succ t pos)
          have D := Lib.hid hd
          have d1 : 48 ≤ bn t pos := hd.1
          have d2 : bn t pos ≤ 57 := hd.2
          clear hd
          go_wp2
          go_roundw
          case rel => exact ⟨pos + 1, by omega, rfl, by rw [P.out, if_pos D.out]; go_num, Lib.hid (fun j hj => by
            by_cases e : j = pos
            · rw [e]; exact D.out
            · exact hH.out j (by omega))⟩
          case measure => simp; omega
        · have E := Lib.hid (par_no (C.out.bad hlt hd))
          by_cases d1 : 48 ≤ bn t pos
          · have d2 : ¬ bn t pos ≤ 57 := fun h => hd ⟨d1, h⟩
            clear hd
            go_wp2
            go_ret2
            exact ⟨ret_ib E.out.2.symm E.out.1.symm, (Below.refl _ _).alloc (Nat.le_refl _) _⟩
          · clear hd
            go_wp2
            go_ret2
            exact ⟨ret_ib E.out.2.symm E.out.1.symm, (Below.refl _ _).alloc (Nat.le_refl _) _⟩
      · have hdh := decode_high t pos hlt (by rw [hg]; omega)
        have hdl := decode_le t pos
        have hnx := fun ty => run_next_any (P := Tryz.prog) w t pos ty hlt
        obtain ⟨r, er⟩ : ∃ r, (Utf8.decode t pos).1 = r := ⟨_, rfl⟩
        rw [er] at hdh hdl hnx
        have hr1 := hdh.1
        have E := Lib.hid (par_no (C.out.bad hlt (by unfold isD; omega)))
        clear hg er hdh hlow
        go_wp2
        go_ret2
        exact ⟨ret_ib E.out.2.symm E.out.1.symm, (Below.refl _ _).alloc (Nat.le_refl _) _⟩
    · have hnx := fun ty => run_next_end (P := Tryz.prog) w t pos ty hlt
      obtain rfl : pos = t.size := by omega
      have cn := C.out.num hl hH.out
      have csz := C.out.size
      have cle := C.out.le
      have HT1 := Lib.hid (HT.out (w.iter t t.size) ((Below.refl _ _).alloc (Nat.le_refl _) _))
      by_cases hd1 : d = 1
      · have PN : Hid (pN s = -(pn t t.size : Int)) := Lib.hid (by rw [cn.2.2, if_pos hd1])
        have hlen : t.size < s.size := by omega
        clear csz cle hd1
        by_cases c3 : fmtI (-(pn t t.size : Int)) = s
        · have OK := Lib.hid (par_yes (s := s) ⟨cn.1, cn.2.1, by rw [PN.out]; exact c3⟩)
          have c4 : ((fmtI (-(pn t t.size : Int))).toList == s.toList) = true := by rw [c3]; simp
          have c5 : (fmtI (-(pn t t.size : Int))).toList = s.toList := by rw [c3]
          clear c3 cn
          go_wp2_with (go_at_call 95; refine (impl_FormatInt (-(pn t t.size : Int)) (by omega) (by omega) _ HT1.out).mono ?_; rintro e w' ⟨rfl, hb1⟩)
          go_ret2
          exact ⟨ret_ib (by rw [OK.out.2, PN.out]) OK.out.1.symm, ((Below.refl _ _).alloc (Nat.le_refl _) _).trans (hb1.mono (by simp [World.iter]))⟩
        · have E := Lib.hid (par_no (s := s) fun h => c3 (by rw [← PN.out]; exact h.2.2))
          have c5 : ¬ (fmtI (-(pn t t.size : Int))).toList = s.toList := fun h => c3 (by
            rw [ByteArray.toList_eq, ByteArray.toList_eq] at h
            apply ByteArray.ext; apply Array.toList_inj.1; exact h)
          have c6 : ((fmtI (-(pn t t.size : Int))).toList == s.toList) = false := by simpa using c5
          have c7 : ((fmtI (-(pn t t.size : Int))).toList != s.toList) = true := by simpa using c5
          clear c3 cn
          go_wp2_with (go_at_call 95; refine (impl_FormatInt (-(pn t t.size : Int)) (by omega) (by omega) _ HT1.out).mono ?_; rintro e w' ⟨rfl, hb1⟩)
          go_ret2
          exact ⟨ret_ib E.out.2.symm E.out.1.symm, ((Below.refl _ _).alloc (Nat.le_refl _) _).trans (hb1.mono (by simp [World.iter]))⟩
      · have PN : Hid (pN s = (pn t t.size : Int)) := Lib.hid (by rw [cn.2.2, if_neg hd1])
        have hlen : ¬ t.size < s.size := by omega
        clear csz cle hd1
        by_cases c3 : fmtI ((pn t t.size : Int)) = s
        · have OK := Lib.hid (par_yes (s := s) ⟨cn.1, cn.2.1, by rw [PN.out]; exact c3⟩)
          have c4 : ((fmtI ((pn t t.size : Int))).toList == s.toList) = true := by rw [c3]; simp
          have c5 : (fmtI ((pn t t.size : Int))).toList = s.toList := by rw [c3]
          clear c3 cn
          go_wp2_with (go_at_call 95; refine (impl_FormatInt ((pn t t.size : Int)) (by omega) (by omega) _ HT1.out).mono ?_; rintro e w' ⟨rfl, hb1⟩)
          go_ret2
          exact ⟨ret_ib (by rw [OK.out.2, PN.out]) OK.out.1.symm, ((Below.refl _ _).alloc (Nat.le_refl _) _).trans (hb1.mono (by simp [World.iter]))⟩
        · have E := Lib.hid (par_no (s := s) fun h => c3 (by rw [← PN.out]; exact h.2.2))
          have c5 : ¬ (fmtI ((pn t t.size : Int))).toList = s.toList := fun h => c3 (by
            rw [ByteArray.toList_eq, ByteArray.toList_eq] at h
            apply ByteArray.ext; apply Array.toList_inj.1; exact h)
          have c6 : ((fmtI ((pn t t.size : Int))).toList == s.toList) = false := by simpa using c5
          have c7 : ((fmtI ((pn t t.size : Int))).toList != s.toList) = true := by simpa using c5
          clear c3 cn
          go_wp2_with (go_at_call 95; refine (impl_FormatInt ((pn t t.size : Int)) (by omega) (by omega) _ HT1.out).mono ?_; rintro e w' ⟨rfl, hb1⟩)
          go_ret2
          exact ⟨ret_ib E.out.2.symm E.out.1.symm, ((Below.refl _ _).alloc (Nat.le_refl _) _).trans (hb1.mono (by simp [World.iter]))⟩

theorem impl_ParseInt (s : ByteArray) (hm : s.size ≤ 1048576) (w : World) (ht : Tab w) :
    Calls Tryz.prog 102 #[.string s] w fun e w' => e = .returned (.tuple #[.int .i64 (parN s), .bool (parB s)]) ∧ Below w.heap.size w w' := by
  obtain ⟨t, d, et, c⟩ := cut_of s
  by_cases hl : 9 < t.size
  · exact impl_ParseInt_long s t d et c hm hl w
  · exact impl_ParseInt_short s t d et c hm (by omega) w ht
end Go.Proofs.YtfhlmindkogdoaaGreatDoor

namespace Go.Proofs.YtfhlmindkogdoaaGreatDoor
open Go.ChangeShapes Go.WideShapes Go.ChangeAt Go.RowKit Go.Sort
set_option linter.unusedVariables false
set_option linter.unusedSimpArgs false

/-- Are all words numerals? -/
def allN (ws : List ByteArray) : Prop := ∀ x ∈ ws, parB x = true
noncomputable def nums (ws : List ByteArray) : List Int := ws.map parN
def PnOut (w : World) (s : ByteArray) (e : Ending) (w' : World) : Prop :=
  ∃ A c ok q xs, e = .returned (.tuple #[.slice A xs.length c, .bool ok]) ∧ OwnV w' w.heap.size w'.heap.size (.slice A xs.length c) q xs ∧ Below w.heap.size w w' ∧ xs.length ≤ s.size + 1 ∧ (ok = true ↔ allN (wordsI s)) ∧ (ok = true → xs = nums (wordsI s))
theorem nums_take (ws : List ByteArray) {k : Nat} (hk : k < ws.length) {x : ByteArray} (hx : ws.getD k ⟨#[]⟩ = x) : (nums ws).take (k + 1) = (nums ws).take k ++ [parN x] := by
  have hk' : k < (nums ws).length := by simpa [nums] using hk
  rw [List.take_succ_eq_append_getElem hk']
  subst hx
  simp [nums, List.getD_eq_getElem?_getD, hk]
theorem ownV_nil (w : World) (lo hi : Nat) : OwnV w lo hi (.slice none 0 0) 0 [] := ⟨none, 0, rfl, Nat.le_refl _, by unfold maxLen; omega, fun h => by simp at h⟩

set_option maxRecDepth 100000 in
set_option maxHeartbeats 1000000 in
theorem parseList_int (s : ByteArray) (m : Int) (hs : s.size ≤ 1048576) (w : World) (hm : w.cell? ⟨0, 0, none⟩ = some (.int .i64 m)) (ht : Tab w) :
    Calls Tryz.prog 83 #[.string s, .func (.func 102) #[] #[]] w (PnOut w s) := by
  obtain ⟨i0, hi, hz0, hz1, hz2⟩ := info_parts int_info
  have HT := Lib.hid (Lib.tabBelow_of_tabIs ht)
  have hsp := Tryz.strings_Split s ⟨#[44]⟩ m w (by omega) hm (by decide)
  rw [← words_len] at hsp
  change Calls Tryz.prog _ _ _ fun e w' => e = .returned (.slice (some ⟨w.heap.size, 0, none⟩) (wordsI s).length (wordsI s).length) ∧ w' = w.alloc (.cells ((wordsI s).map Value.string).toArray 9) at hsp
  have WL := words_le s
  have WS := Lib.hid (fun x (h : x ∈ wordsI s) => words_size h)
  generalize hws : wordsI s = ws at hsp WL WS
  have HW := Lib.hid hws
  have SP := Lib.hid hsp
  have R0 := Lib.hid (show RS (w.alloc (.cells (ws.map Value.string).toArray 9)) w.heap.size ws from heap_alloc_new w _)
  have B0 := Lib.hid (below_alloc w (.cells (ws.map Value.string).toArray 9))
  have WL' : (ws.length : Int) ≤ 1048577 := by omega
  obtain ⟨w0, hw0⟩ : ∃ W, W = w.alloc (.cells (ws.map Value.string).toArray 9) := ⟨_, rfl⟩
  have Z0 : w0.heap.size = w.heap.size + 1 := by rw [hw0, al_size]
  rw [← hw0] at R0 B0 SP
  clear hsp hws hm ht hw0
  go_enter Tryz.func83, Tryz.ntmps83
  go_wp2_with (go_at_call 85; refine SP.out.mono ?_; rintro e w0 ⟨rfl, rfl⟩)
  go_loopw [6, 8, 9, 10, 14] (fun v _ _ _ i wr => ∃ (k : Nat) (A : Option Addr) (c : Nat), k ≤ ws.length ∧ i = .int .i64 k ∧ v = .slice A k c ∧ wr.ownsRow (w.heap.size + 1) 3 1 (.slice A k c) k (((nums ws).take k).map (Value.int .i64)) ∧ Below (w.heap.size + 1) w0 wr ∧ w.heap.size + 1 ≤ wr.heap.size ∧ Hid (∀ x ∈ ws.take k, parB x = true)) (fun _ _ _ _ i _ => ws.length - (intOf i).toNat)
  case atStart => exact ⟨0, none, 0, by omega, rfl, rfl, ⟨by simp, .inl ⟨rfl, rfl⟩⟩, Below.refl _ _, by omega, Lib.hid (by simp)⟩
  case round =>
    obtain ⟨k, A, c, hk, rfl, rfl, hown, hb, hsz, hall⟩ := hrel
    have R1 : RS wr w.heap.size ws := (hb.block _ (by omega)).trans R0.out
    by_cases hlt : k < ws.length
    · have hc := R1.cell hlt
      generalize hx : ws.getD k ⟨#[]⟩ = x at hc
      have hxm : x ∈ ws := by subst hx; rw [List.getD_eq_getElem?_getD, List.getElem?_eq_getElem hlt]; exact List.getElem_mem _
      have hxs : x.size ≤ 1048576 := Nat.le_trans (WS.out x hxm) hs
      have NT := Lib.hid (nums_take ws hlt hx)
      have TK := Lib.hid (show ws.take (k + 1) = ws.take k ++ [x] by rw [List.take_succ_eq_append_getElem hlt]; subst hx; simp [List.getD_eq_getElem?_getD, hlt])
      have HM := Lib.hid hxm
      have XI := Lib.hid (impl_ParseInt x hxs wr (HT.out wr (B0.out.trans (hb.mono (by omega)))))
      have BB := Lib.hid hb
      clear hx hxm R1
      by_cases hp : parB x = true
      · rw [hp] at XI
        have HP := Lib.hid hp
        have HO := Lib.hid hown
        generalize parN x = n at XI NT
        clear hp hb hown
        go_wp2_with (first
          | (go_at_call 102; refine XI.out.mono ?_; rintro e u ⟨rfl, d⟩
             have hownu := ownsRow_step HO.out d
             have hbu : Below (w.heap.size + 1) w0 u := BB.out.trans (d.mono hsz)
             have hszu : w.heap.size + 1 ≤ u.heap.size := by have := d.size; omega
             clear d)
          | (at_builtin; refine wpList_push rfl _ _ _ 3 rfl i0 Tryz.underlying24 hi (.int .i64 0) 8 hz0 hz1 hz2 rfl (by omega) rfl rfl rfl hownu hbu hszu (by omega) ?_; intro v' w' hown' hb' hsz'; obtain ⟨A', c', rfl⟩ := ownsRow_form hown'))
        go_roundw
        case rel =>
          refine ⟨k + 1, A', c', by omega, by go_num, rfl, ?_, hb', by omega, Lib.hid (by rw [TK.out]; intro y hy; rcases List.mem_append.1 hy with hy | hy; exact hall.out y hy; simp at hy; subst hy; exact HP.out)⟩
          rw [NT.out, List.map_append]
          exact hown'
        case measure => simp [intOf]; omega
      · have hp' : parB x = false := by simpa using hp
        rw [hp'] at XI
        have HP := Lib.hid hp
        generalize parN x = n at XI
        clear hp hp' hb hown NT
        go_wp2_with (go_at_call 102; refine XI.out.mono ?_; rintro e u ⟨rfl, d⟩)
        go_ret2
        refine ⟨none, 0, false, 0, [], rfl, ownV_nil _ _ _, B0.out.trans ((BB.out.trans (d.mono hsz)).mono (by omega)), by simp, ?_, fun h => (by cases h)⟩
        rw [HW.out]
        exact ⟨fun h => (by cases h), fun h => absurd (h x HM.out) HP.out⟩
    · obtain rfl : k = ws.length := by omega
      have hnl : (nums ws).length = ws.length := by simp [nums]
      have hown2 : wr.ownsRow (w.heap.size + 1) 3 1 (.slice A ws.length c) ws.length ((nums ws).map (Value.int .i64)) := by have := hown; rw [List.take_of_length_le (by omega)] at this; exact this
      obtain ⟨q, hv⟩ := ownV_of_row hown2
      have HV := Lib.hid (show OwnV wr (w.heap.size + 1) wr.heap.size (.slice A (nums ws).length c) q (nums ws) by rw [hnl]; exact hv)
      have BB := Lib.hid hb
      have HA := Lib.hid hall
      have NL := Lib.hid hnl
      clear hown hown2 hv hb hnl R1
      go_wp2
      go_ret2
      refine ⟨A, c, true, q, nums ws, by rw [NL.out]; rfl, HV.out.mono (by omega) (Nat.le_refl _), B0.out.trans (BB.out.mono (by omega)), by rw [NL.out]; exact WL, ?_, fun _ => by rw [HW.out]⟩
      rw [HW.out]
      exact ⟨fun _ x hx => hall.out x (by rw [List.take_length]; exact hx), fun _ => rfl⟩
end Go.Proofs.YtfhlmindkogdoaaGreatDoor

namespace Go.Proofs.YtfhlmindkogdoaaGreatDoor
open Go.ChangeShapes Go.WideShapes Go.ChangeAt Go.RowKit Go.Sort
set_option linter.unusedVariables false
set_option linter.unusedSimpArgs false

/-- The digit of d. -/
def dg (d : Int) : UInt8 := UInt8.ofNat (48 + d.toNat)
theorem fmt_digit {d : Int} (h0 : 0 ≤ d) (h1 : d ≤ 9) : fmtI d = ⟨#[dg d]⟩ := by
  unfold fmtI
  rw [Lib.itoa, if_neg (by omega), Lib.decDigits_one (by omega)]
  rfl
/-- The digits, commas between. -/
def commaL : List Int → List UInt8
  | [] => []
  | [x] => [dg x]
  | x :: y :: r => dg x :: 44 :: commaL (y :: r)
theorem commaL_snoc : ∀ (l : List Int) (x : Int), l ≠ [] → commaL (l ++ [x]) = commaL l ++ [44, dg x]
  | [], x, h => absurd rfl h
  | [y], x, _ => rfl
  | y :: z :: r, x, _ => by
    have ih := commaL_snoc (z :: r) x (by simp)
    simp only [List.cons_append] at ih ⊢
    rw [commaL, commaL, ih]
    rfl
theorem commaL_take (l : List Int) (k : Nat) (hk : k < l.length) : commaL (l.take (k + 1)) = if k = 0 then [dg (l.getD k 0)] else commaL (l.take k) ++ [44, dg (l.getD k 0)] := by
  have e : l[k] = l.getD k 0 := by simp [List.getD_eq_getElem?_getD, hk]
  rw [List.take_succ_eq_append_getElem hk, e]
  by_cases h0 : k = 0
  · subst h0; simp [commaL]
  · rw [if_neg h0, commaL_snoc]
    intro h
    have := congrArg List.length h
    rw [List.length_take, List.length_nil] at this
    omega
theorem commaL_len : ∀ l : List Int, (commaL l).length ≤ 2 * l.length
  | [] => by simp [commaL]
  | [x] => by simp [commaL]
  | x :: y :: r => by
    have := commaL_len (y :: r)
    simp only [commaL, List.length_cons] at this ⊢
    omega
theorem comma_join : ∀ l : List Int, Lib.join (l.map fun x => [dg x]) [44] = commaL l
  | [] => rfl
  | [x] => by simp [Lib.join_one, commaL]
  | x :: y :: r => by
    have ih := comma_join (y :: r)
    simp only [List.map_cons] at ih ⊢
    rw [Lib.join_cons] at ih ⊢
    rw [commaL, ← ih]
    simp [Lib.joinTail]

/-- Has the fact a text? -/
def fmtOk (r : Int) (xs : List Int) : Bool := inB r 0 2 && inB (xs.length : Int) 1 3 && allB 0 9 xs
/-- The text of a fact. -/
def fmtF (r : Int) (xs : List Int) : ByteArray := if fmtOk r xs = true then ⟨([114, dg r, 40] ++ commaL xs ++ [41]).toArray⟩ else ⟨#[]⟩
theorem fmtF_yes {r : Int} {xs : List Int} (h : fmtOk r xs = true) : fmtF r xs = ⟨([114, dg r, 40] ++ commaL xs ++ [41]).toArray⟩ := if_pos h
theorem fmtF_no {r : Int} {xs : List Int} (h : fmtOk r xs = false) : fmtF r xs = ⟨#[]⟩ := if_neg (by simp [h])

theorem allB_get {a b : Int} {xs : List Int} (h : allB a b xs = true) {k : Nat} (hk : k < xs.length) : a ≤ xs.getD k 0 ∧ xs.getD k 0 ≤ b := by
  unfold allB at h
  rw [List.all_eq_true] at h
  have := h xs[k] (List.getElem_mem _)
  have e : xs.getD k 0 = xs[k] := by simp [List.getD_eq_getElem?_getD, hk]
  rw [e]
  simpa [inB] using this

theorem string_info : (Tryz.prog.info? 9).map (fun i => (i.zero, i.size, i.bytes)) = some (some (.string ⟨#[]⟩), 1, 16) := by kernel_rfl
theorem makeStrs (n : Nat) (hn : n ≤ 1048576) :
    ∃ C : Array Value, (∀ i, i < n → C[i]? = some (.string ⟨#[]⟩)) ∧ C.size = n ∧ ∀ W : World, (Instr.makeSlice 57 (.int .i64 (n : Int)) (.int .i64 (n : Int))).run Tryz.prog W = .ok (.slice (some ⟨W.heap.size, 0, none⟩) n n) (W.alloc (.cells C 9)) := by
  obtain ⟨i0, hi, hz0, hz1, hz2⟩ := info_parts string_info
  refine ⟨madeCells #[.string ⟨#[]⟩] n, fun i hin => ?_, size_madeCells _ _, fun W => ?_⟩
  · simp [madeCells, hin, Nat.mod_one]
  · have h := run_make (P := Tryz.prog) W 57 9 i0 (.string ⟨#[]⟩) Tryz.underlying57 hi hz0 .i64 .i64 (n : Int) (n : Int) (by omega) (by omega) (by rw [hz2]; omega) (by omega)
    rw [hz1, show ((n : Int)).toNat = n by omega, Nat.mul_one] at h
    exact h

set_option maxRecDepth 100000 in
set_option maxHeartbeats 400000 in
theorem formatList_int (A : Option Addr) (c : Nat) (xs : List Int) (hl : xs.length ≤ 3) (hd : allB 0 9 xs = true) (w : World) (h : RI w A xs) (ht : Tab w) :
    Calls Tryz.prog 78 #[.slice A xs.length c, .func (.func 95) #[] #[]] w fun e w' => e = .returned (.string ⟨(commaL xs).toArray⟩) ∧ Below w.heap.size w w' := by
  obtain ⟨C, hC, hCs, hmk⟩ := makeStrs xs.length (by omega)
  have HI := Lib.hid h
  have HT := Lib.hid (Lib.tabBelow_of_tabIs ht)
  have HD := Lib.hid fun (k : Nat) (hk : k < xs.length) => allB_get hd hk
  have HC := Lib.hid hC
  have HS := Lib.hid hCs
  have hl' : (xs.length : Int) ≤ 3 := by omega
  clear h hd ht hC hCs
  go_enter Tryz.func78, Tryz.ntmps78
  go_wp2
  go_loopw [6, 7, 13] (fun _ _ i wr => ∃ k : Nat, k ≤ xs.length ∧ i = .int .i64 k ∧ (∃ f, wr.rowIs w.heap.size 9 xs.length f ∧ ∀ j, j < k → f j = .string ⟨#[dg (xs.getD j 0)]⟩) ∧ Below w.heap.size w wr ∧ w.heap.size < wr.heap.size) (fun _ _ i _ => xs.length - (intOf i).toNat)
  case atStart => exact ⟨0, by omega, rfl, ⟨fun _ => .string ⟨#[]⟩, ⟨C, by rw [heap_alloc_new], HS.out, fun i hi => HC.out i hi⟩, fun j hj => by omega⟩, below_alloc _ _, by simp⟩
  case round =>
    obtain ⟨k, hk, rfl, ⟨f, hr, hf⟩, hb, hsz⟩ := hrel
    have HF := Lib.hid hf
    have HR := Lib.hid hr
    clear hf hr
    by_cases hlt : k < xs.length
    · obtain ⟨d0, d1⟩ := HD.out k hlt
      obtain ⟨b, off, rfl, _, hc⟩ := (HI.out.step hb).at_ hlt
      generalize hx : xs.getD k 0 = x at hc d0 d1
      have HX := Lib.hid hx
      clear hx
      have FD := Lib.hid (fmt_digit d0 d1)
      go_wp2_with fail
      refine (impl_FormatInt x (by omega) (by omega) _ (HT.out _ hb)).mono ?_
      rintro e u ⟨he, d⟩
      rw [FD.out] at he
      subst he
      have hb2 := step hb d
      have HR2 := Lib.hid (World.rowIs.of_block HR.out (d.block _ hsz))
      have hsz2 : w.heap.size < u.heap.size := by have := d.size; omega
      have hz1 := HR2.out.cell hlt
      have hz2 := HR2.out.frozen k
      clear d
      go_wp2
      go_roundw
      case rel =>
        refine ⟨k + 1, by omega, by go_num, ⟨_, HR2.out.set k _, fun j hj => ?_⟩, hb2.setCell (Nat.le_refl _) _, by simpa [World.setCell] using hsz2⟩
        by_cases e : j = k
        · subst e; rw [if_pos rfl, HX.out]
        · rw [if_neg e]; exact HF.out j (by omega)
      case measure => simp [intOf]; omega
    · obtain rfl : k = xs.length := by omega
      have hlen : (xs.map fun x => (⟨#[dg x]⟩ : ByteArray)).length = xs.length := by simp
      have hmap : (xs.map fun x => (⟨#[dg x]⟩ : ByteArray)).map (·.data.toList) = xs.map fun x => [dg x] := by simp
      have hj := Tryz.strings_Join w.heap.size 0 xs.length (xs.map fun x => ⟨#[dg x]⟩) ⟨#[44]⟩ wr (fun j x hx => by
        have hj : j < xs.length := by rw [← hlen]; exact (List.getElem?_eq_some_iff.1 hx).1
        rw [Nat.zero_add, HR.out.cell hj, HF.out j hj]
        rw [List.getElem?_map, List.getElem?_eq_getElem hj] at hx
        injection hx with hx
        subst hx
        simp [List.getD_eq_getElem?_getD, hj]) hsz (by rw [hlen]; omega) (by rw [hlen]; exact Nat.le_refl _) (by rw [hmap, comma_join]; have := commaL_len xs; omega)
      rw [hmap, hlen, show (⟨#[44]⟩ : ByteArray).data.toList = [44] from rfl, comma_join] at hj
      have HJ := Lib.hid hj
      clear hj hlen hmap
      go_wp2_with fail
      refine HJ.out.mono ?_
      rintro e u ⟨rfl, d⟩
      go_wp2
      go_ret
      exact ⟨rfl, step hb d⟩
end Go.Proofs.YtfhlmindkogdoaaGreatDoor

namespace Go.Proofs.YtfhlmindkogdoaaGreatDoor
open Go.ChangeShapes Go.WideShapes Go.ChangeAt Go.RowKit Go.Sort
set_option linter.unusedVariables false
set_option linter.unusedSimpArgs false

theorem fmt_cat (r : Int) (L : List UInt8) : (⟨#[114]⟩ : ByteArray) ++ ⟨#[dg r]⟩ ++ ⟨#[40]⟩ ++ ⟨L.toArray⟩ ++ ⟨#[41]⟩ = ⟨([114, dg r, 40] ++ L ++ [41]).toArray⟩ := by
  rw [show (⟨#[114]⟩ : ByteArray) = ⟨[114].toArray⟩ from rfl, show (⟨#[dg r]⟩ : ByteArray) = ⟨[dg r].toArray⟩ from rfl, show (⟨#[40]⟩ : ByteArray) = ⟨[40].toArray⟩ from rfl, show (⟨#[41]⟩ : ByteArray) = ⟨[41].toArray⟩ from rfl, ba_append, ba_append, ba_append, ba_append]
  simp

set_option maxRecDepth 100000 in
set_option maxHeartbeats 1000000 in
theorem formatParts_int (r : Int) (xs : List Int) (A : Option Addr) (c : Nat) (h0 : 0 ≤ r) (h9 : r ≤ 9) (hl : xs.length ≤ 3) (hd : allB 0 9 xs = true) (w : World) (h : RI w A xs) (ht : Tab w) :
    Calls Tryz.prog 66 #[.int .i64 r, .slice A xs.length c, .func (.func 95) #[] #[]] w fun e w' => e = .returned (.string ⟨([114, dg r, 40] ++ commaL xs ++ [41]).toArray⟩) ∧ Below w.heap.size w w' := by
  have FD := Lib.hid (fmt_digit h0 h9)
  have HI := Lib.hid h
  have HT := Lib.hid (Lib.tabBelow_of_tabIs ht)
  have XL := Lib.hid fun (W : World) (hW : Below w.heap.size w W) => formatList_int A c xs hl hd W (HI.out.step hW) (HT.out _ hW)
  have hsz := commaL_len xs
  have hsz2 : (commaL xs).length ≤ 9 := by omega
  have FC := Lib.hid (fmt_cat r (commaL xs))
  generalize commaL xs = L at hsz2 XL FC ⊢
  clear hsz h ht hd
  go_enter Tryz.func66, Tryz.ntmps66
  go_wp2_with fail
  refine (impl_FormatInt r (by omega) (by omega) _ (HT.out _ (Below.refl _ _))).mono ?_
  rintro e w1 ⟨he, d⟩
  rw [FD.out] at he
  subst he
  have D1 := Lib.hid d
  clear d
  go_wp2_with fail
  refine (XL.out _ D1.out).mono ?_
  rintro e w2 ⟨rfl, d⟩
  have D2 := Lib.hid (step D1.out d)
  clear d
  go_wp2
  go_ret
  exact ⟨ret_str FC.out, D2.out⟩

/-- The table of powers of ten holds, and will while no old memory turns. -/
def TabB (w : World) : Prop := ∀ w', Below w.heap.size w w' → Tab w'
theorem TabB.of {w : World} (h : Tab w) : TabB w := Lib.tabBelow_of_tabIs h
theorem TabB.step {w w' : World} (h : TabB w) (b : Below w.heap.size w w') : TabB w' := fun w2 b2 => h w2 (Go.Proofs.YtfhlmindkogdoaaGreatDoor.step b b2)
end Go.Proofs.YtfhlmindkogdoaaGreatDoor

namespace Go.Proofs.YtfhlmindkogdoaaGreatDoor
open Go.ChangeShapes Go.WideShapes Go.ChangeAt Go.RowKit Go.Sort
set_option linter.unusedVariables false
set_option linter.unusedSimpArgs false

/-- The text up to the parenthesis, and behind it; the number, and the numbers' text. -/
def hdI (s : ByteArray) : ByteArray := ⟨(Lib.cut s.data.toList [40]).1.toArray⟩
def tlI (s : ByteArray) : ByteArray := ⟨(Lib.cut s.data.toList [40]).2.1.toArray⟩
def cbI (s : ByteArray) : Bool := (Lib.cut s.data.toList [40]).2.2
def numI (s : ByteArray) : ByteArray := ⟨(Lib.trimPrefix (hdI s).data.toList [114]).toArray⟩
def bodyI (s : ByteArray) : ByteArray := ⟨(Lib.trimSuffix (tlI s).data.toList [41]).toArray⟩
theorem hdI_size (s : ByteArray) : (hdI s).size ≤ s.size ∧ (tlI s).size ≤ s.size := by
  unfold hdI tlI Lib.cut
  split
  · simp only [size_eq', List.length_take, List.length_drop]; omega
  · simp only [size_eq']; simp
theorem numI_size (s : ByteArray) : (numI s).size ≤ s.size := by
  refine Nat.le_trans ?_ (hdI_size s).1
  unfold numI Lib.trimPrefix
  split
  · simp only [size_eq', List.length_drop]; omega
  · exact Nat.le_refl _
theorem bodyI_size (s : ByteArray) : (bodyI s).size ≤ s.size := by
  refine Nat.le_trans ?_ (hdI_size s).2
  unfold bodyI Lib.trimSuffix
  split
  · simp only [size_eq', List.length_take]; omega
  · exact Nat.le_refl _
theorem cutI_at (s : ByteArray) (hs : s.size ≤ 1048576) (m : Int) (W : World) (hm : W.cell? ⟨0, 0, none⟩ = some (.int .i64 m)) :
    Calls Tryz.prog 41 #[.string s, .string ⟨#[40]⟩] W fun e w' => e = .returned (.tuple #[.string (hdI s), .string (tlI s), .bool (cbI s)]) ∧ Below W.heap.size W w' := by
  refine (Tryz.strings_Cut s ⟨#[40]⟩ m W (by omega) hm).mono ?_
  rintro e w' ⟨rfl, n, rfl⟩
  exact ⟨rfl, below_drewN (Below.refl _ _) n⟩
theorem trimP_at (s : ByteArray) (W : World) :
    Calls Tryz.prog 104 #[.string (hdI s), .string ⟨#[114]⟩] W fun e w' => e = .returned (.string (numI s)) ∧ W = w' := by
  refine (Tryz.strings_TrimPrefix (hdI s) ⟨#[114]⟩ W).mono ?_
  rintro e w' ⟨rfl, rfl⟩
  exact ⟨rfl, rfl⟩
theorem trimS_at (s : ByteArray) (hs : s.size ≤ 1048576) (W : World) :
    Calls Tryz.prog 105 #[.string (tlI s), .string ⟨#[41]⟩] W fun e w' => e = .returned (.string (bodyI s)) ∧ W = w' := by
  refine (Tryz.strings_TrimSuffix (tlI s) ⟨#[41]⟩ W (by have := (hdI_size s).2; omega)).mono ?_
  rintro e w' ⟨rfl, rfl⟩
  exact ⟨rfl, rfl⟩

/-- Is the text that of a fact of the schema? -/
def okPI (S : List Int) (s : ByteArray) : Prop :=
  parB (numI s) = true ∧ allN (wordsI (bodyI s)) ∧ factB S (parN (numI s)) (nums (wordsI (bodyI s))) = true ∧ fmtF (parN (numI s)) (nums (wordsI (bodyI s))) = s
noncomputable instance (S : List Int) (s : ByteArray) : Decidable (okPI S s) := Classical.propDecidable _
noncomputable def prs (S : List Int) (s : ByteArray) : Int × List Int × Bool := if okPI S s then (parN (numI s), nums (wordsI (bodyI s)), true) else (0, [], false)
theorem prs_no {S : List Int} {s : ByteArray} (h : ¬ okPI S s) : prs S s = (0, [], false) := if_neg h
theorem prs_yes {S : List Int} {s : ByteArray} (h : okPI S s) : prs S s = (parN (numI s), nums (wordsI (bodyI s)), true) := if_pos h
def PfOut (w : World) (r : Int) (xs : List Int) (ok : Bool) (e : Ending) (w' : World) : Prop :=
  ∃ A c q, e = .returned (.tuple #[.agg #[.int .i64 r, .slice A xs.length c], .bool ok]) ∧ OwnV w' w.heap.size w'.heap.size (.slice A xs.length c) q xs ∧ Below w.heap.size w w'
def PfIs (w : World) (p : Int × List Int × Bool) (e : Ending) (w' : World) : Prop := PfOut w p.1 p.2.1 p.2.2 e w'
theorem factB_len {S : List Int} {r : Int} {xs : List Int} (h : factB S r xs = true) : xs.length ≤ 3 ∧ fmtOk r xs = true := by
  unfold factB schB at h
  simp only [Bool.and_eq_true, decide_eq_true_eq] at h
  obtain ⟨⟨⟨⟨h1, h2⟩, h3⟩, h4⟩, h5⟩ := h
  have h2' : 1 ≤ (S.length : Int) ∧ (S.length : Int) ≤ 3 := by simpa [inB] using h2
  have h3' : 0 ≤ r ∧ r ≤ (S.length : Int) - 1 := by simpa [inB] using h3
  have h6 := allB_get h1 (show r.toNat < S.length by omega)
  rw [← h4] at h6
  refine ⟨by omega, ?_⟩
  unfold fmtOk
  rw [h5]
  simp [inB]
  omega

/-- What parseParts answers. -/
def PpOut (w : World) (s : ByteArray) (e : Ending) (w' : World) : Prop :=
  ∃ A c ok q xs, e = .returned (.tuple #[.int .i64 (parN (numI s)), .slice A xs.length c, .bool ok]) ∧ OwnV w' w.heap.size w'.heap.size (.slice A xs.length c) q xs ∧ Below w.heap.size w w' ∧ xs.length ≤ s.size + 1 ∧ (ok = true ↔ parB (numI s) = true ∧ allN (wordsI (bodyI s))) ∧ (ok = true → xs = nums (wordsI (bodyI s)))
set_option maxRecDepth 100000 in
set_option maxHeartbeats 1000000 in
theorem parseParts_int (s : ByteArray) (hs : s.size ≤ 1048576) (m : Int) (w : World) (hm : w.cell? ⟨0, 0, none⟩ = some (.int .i64 m)) (ht : Tab w) :
    Calls Tryz.prog 86 #[.string s, .func (.func 102) #[] #[]] w (PpOut w s) := by
  have HT := Lib.hid (Lib.tabBelow_of_tabIs ht)
  have HM := Lib.hid (fun (W : World) (hW : Below w.heap.size w W) => (hW.cell (p := ⟨0, 0, none⟩) (by
    show 0 < w.heap.size
    rcases Nat.eq_zero_or_pos w.heap.size with h0 | h0
    · simp [World.cell?, Array.getElem?_eq_none (show w.heap.size ≤ 0 by omega)] at hm
    · exact h0)).trans hm)
  have CU := Lib.hid (fun (W : World) (hW : Below w.heap.size w W) => cutI_at s hs m W (HM.out W hW))
  have NI := Lib.hid (fun (W : World) (hW : Below w.heap.size w W) => impl_ParseInt (numI s) (Nat.le_trans (numI_size s) hs) W (HT.out W hW))
  have PN := Lib.hid (fun (W : World) (hW : Below w.heap.size w W) => parseList_int (bodyI s) m (Nat.le_trans (bodyI_size s) hs) W (HM.out W hW) (HT.out W hW))
  have BS := Lib.hid (bodyI_size s)
  clear hm ht
  go_enter Tryz.func86, Tryz.ntmps86
  go_wp2_with fail
  refine (CU.out _ (Below.refl _ _)).mono ?_
  rintro e w1 ⟨rfl, d1⟩
  have B1 := Lib.hid d1
  clear d1
  go_wp2_with fail
  refine (trimP_at s _).mono ?_
  rintro e u ⟨rfl, rfl⟩
  go_wp2_with fail
  refine (NI.out _ B1.out).mono ?_
  rintro e w2 ⟨rfl, d2⟩
  have B2 := Lib.hid (step B1.out d2)
  clear d2
  go_wp2_with fail
  refine (trimS_at s hs _).mono ?_
  rintro e u ⟨rfl, rfl⟩
  go_wp2_with fail
  refine (PN.out _ B2.out).mono ?_
  rintro e w3 ⟨A, c, ok, q, xs, rfl, hv, d3, hxl, hok, hxs⟩
  have B3 := Lib.hid (step B2.out d3)
  have HV := Lib.hid (hv.mono B2.out.size (Nat.le_refl _))
  have PK := Lib.hid (show ∀ b, ok = b → (b = true ↔ allN (wordsI (bodyI s))) from fun b hb => by subst hb; exact hok)
  have PX := Lib.hid (show ∀ b, ok = b → b = true → xs = nums (wordsI (bodyI s)) from fun b hb h => by subst hb; exact hxs h)
  have XL := Lib.hid (show xs.length ≤ s.size + 1 by have := BS.out; omega)
  have PB := Lib.hid (show ∀ b, parB (numI s) = b → ∀ p : Prop, (b = true ∧ p ↔ parB (numI s) = true ∧ p) from fun b hb p => by rw [hb])
  clear hv d3 hok hxs hxl
  generalize hP : parB (numI s) = pb at PB ⊢
  have P1 := Lib.hid hP
  clear hP
  cases pb
  · go_wp2
    refine bodyPost_ret (v := .tuple #[.int .i64 (parN (numI s)), .slice A xs.length c, .bool false]) (by simp [results, Tryz.results86, go_sem]) rfl ?_
    refine (show PpOut w s _ _ from ⟨A, c, false, q, xs, rfl, HV.out, B3.out, XL.out, ?_, fun h => (by cases h)⟩)
    rw [P1.out]
    exact ⟨fun h => (by cases h), fun h => (by cases h.1)⟩
  · cases ok
    · go_wp2
      refine bodyPost_ret (v := .tuple #[.int .i64 (parN (numI s)), .slice A xs.length c, .bool false]) (by simp [results, Tryz.results86, go_sem]) rfl ?_
      refine (show PpOut w s _ _ from ⟨A, c, false, q, xs, rfl, HV.out, B3.out, XL.out, ?_, fun h => (by cases h)⟩)
      exact ⟨fun h => (by cases h), fun h => (by have := (PK.out false rfl).2 h.2; cases this)⟩
    · go_wp2
      refine bodyPost_ret (v := .tuple #[.int .i64 (parN (numI s)), .slice A xs.length c, .bool true]) (by simp [results, Tryz.results86, go_sem]) rfl ?_
      refine (show PpOut w s _ _ from ⟨A, c, true, q, xs, rfl, HV.out, B3.out, XL.out, ?_, fun h => PX.out true rfl rfl⟩)
      exact ⟨fun _ => ⟨P1.out, (PK.out true rfl).1 rfl⟩, fun _ => rfl⟩
end Go.Proofs.YtfhlmindkogdoaaGreatDoor

namespace Go.Proofs.YtfhlmindkogdoaaGreatDoor
open Go.ChangeShapes Go.WideShapes Go.ChangeAt Go.RowKit Go.Sort
set_option linter.unusedVariables false
set_option linter.unusedSimpArgs false

end Go.Proofs.YtfhlmindkogdoaaGreatDoor

namespace Go.Proofs.YtfhlmindkogdoaaGreatDoor
open Go.ChangeShapes Go.WideShapes Go.ChangeAt Go.RowKit Go.Sort
set_option linter.unusedVariables false
set_option linter.unusedSimpArgs false

/-- The words before byte i, and the one that is under way. -/
def cutS (s : ByteArray) : Nat → List ByteArray × ByteArray
  | 0 => ([], ⟨#[]⟩)
  | i + 1 => if bn s i = 44 then ((cutS s i).1 ++ [(cutS s i).2], ⟨#[]⟩) else ((cutS s i).1, (cutS s i).2 ++ s.extract i (i + 1))
def cutW (s : ByteArray) : List ByteArray := (cutS s s.size).1 ++ [(cutS s s.size).2]
theorem cutS_hit {s : ByteArray} {i : Nat} (h : bn s i = 44) : cutS s (i + 1) = ((cutS s i).1 ++ [(cutS s i).2], ⟨#[]⟩) := if_pos h
theorem cutS_miss {s : ByteArray} {i : Nat} (h : ¬ bn s i = 44) : cutS s (i + 1) = ((cutS s i).1, (cutS s i).2 ++ s.extract i (i + 1)) := if_neg h
theorem ba_size_app (a b : ByteArray) : (a ++ b).size = a.size + b.size := ByteArray.size_append
theorem cutS_le (s : ByteArray) : ∀ i, (cutS s i).1.length ≤ i ∧ (cutS s i).2.size ≤ i ∧ ∀ x ∈ (cutS s i).1, x.size ≤ i
  | 0 => ⟨Nat.le_refl _, Nat.le_refl _, fun x h => by simp [cutS] at h⟩
  | i + 1 => by
    obtain ⟨h1, h2, h3⟩ := cutS_le s i
    by_cases e : bn s i = 44
    · rw [cutS_hit e]
      refine ⟨by simp; omega, by show (0 : Nat) ≤ _; omega, fun x h => ?_⟩
      rcases List.mem_append.1 h with h | h
      · have := h3 x h; omega
      · simp at h; subst h; omega
    · rw [cutS_miss e]
      refine ⟨by show (cutS s i).1.length ≤ _; omega, ?_, fun x h => by have := h3 x h; omega⟩
      show ((cutS s i).2 ++ s.extract i (i + 1)).size ≤ _
      rw [ba_size_app, ByteArray.size_extract]; omega
theorem cutW_len (s : ByteArray) : (cutW s).length ≤ s.size + 1 := by
  have := (cutS_le s s.size).1
  unfold cutW
  simp; omega
theorem cutW_size {s x : ByteArray} (h : x ∈ cutW s) : x.size ≤ s.size := by
  obtain ⟨h1, h2, h3⟩ := cutS_le s s.size
  rcases List.mem_append.1 h with h | h
  · exact h3 x h
  · simp at h; subst h; exact h2

/-- Texts behind a slice's address. -/
def StrsAt (w : World) (A : Option Addr) (ws : List ByteArray) : Prop :=
  ws ≠ [] → ∃ g, A = some ⟨g, 0, none⟩ ∧ g < w.heap.size ∧ ∀ k, k < ws.length → w.cell? ⟨g, k, none⟩ = some (.string (ws.getD k ⟨#[]⟩))
theorem StrsAt.step {w w' : World} {A : Option Addr} {ws : List ByteArray} (h : StrsAt w A ws) {N : Nat} (hN : w.heap.size ≤ N) (d : Below N w w') : StrsAt w' A ws := fun hx => by
  obtain ⟨g, hA, hg, hc⟩ := h hx
  exact ⟨g, hA, by have := d.size; omega, fun k hk => (d.cell (p := ⟨g, k, none⟩) (show g < N by omega)).trans (hc k hk)⟩
theorem strs_of_row {w : World} {base n c : Nat} {e : TypeId} {A : Option Addr} {ws : List ByteArray} (h : w.ownsRow base e 1 (.slice A n c) n (ws.map Value.string)) : n = ws.length ∧ StrsAt w A ws := by
  have hl : n = ws.length := by have := h.1; simp at this; omega
  refine ⟨hl, fun hx => ?_⟩
  have hp := List.length_pos_iff.2 hx
  rcases h.2 with ⟨_, h0⟩ | ⟨g, cap, cur, hv, hb, hg, hnc, hcm, hcs, htk⟩
  · omega
  · injection hv with e1 e2 e3
    subst e1
    have hlt : g < w.heap.size := by
      rcases Nat.lt_or_ge g w.heap.size with hlt | hge
      · exact hlt
      · rw [Array.getElem?_eq_none hge] at hg; cases hg
    refine ⟨g, rfl, hlt, fun k hk => ?_⟩
    rw [cell_of_row w g k _ _ (0, 0) hg]
    have h1 : (cur.toList.take (n * 1))[k]? = (ws.map Value.string)[k]? := by rw [htk]
    rw [Nat.mul_one, List.getElem?_take_of_lt (by omega), List.getElem?_map, List.getElem?_eq_getElem hk, Array.getElem?_toList] at h1
    rw [h1]
    simp [List.getD_eq_getElem?_getD, hk]

set_option maxRecDepth 100000 in
set_option maxHeartbeats 1000000 in
theorem l2Cut_any (s : ByteArray) (hs : s.size ≤ 1048576) (w : World) :
    Calls Tryz.prog 58 #[.string s, .int .u8 44] w fun e w' => ∃ A c, e = .returned (.slice A (cutW s).length c) ∧ StrsAt w' A (cutW s) ∧ Below w.heap.size w w' := by
  obtain ⟨i0, hi, hz0, hz1, hz2⟩ := info_parts string_info
  have hs' : (s.size : Int) ≤ 1048576 := by omega
  go_enter Tryz.func58, Tryz.ntmps58
  go_wp2
  go_loopw [5, 6, 7] (fun v cur i wr => ∃ (k : Nat) (A : Option Addr) (c : Nat), k ≤ s.size ∧ i = .int .i64 k ∧ v = .slice A (cutS s k).1.length c ∧ cur = .string (cutS s k).2 ∧ wr.ownsRow w.heap.size 9 1 (.slice A (cutS s k).1.length c) (cutS s k).1.length ((cutS s k).1.map Value.string) ∧ Below w.heap.size w wr) (fun _ _ i _ => s.size - (intOf i).toNat)
  case atStart => exact ⟨0, _, _, by omega, rfl, rfl, rfl, World.ownsRow_lit _ #[] 0 (Nat.le_refl _) (by unfold maxLen; omega) rfl, below_alloc _ _⟩
  case round =>
    obtain ⟨k, A, c, hk, rfl, rfl, rfl, hown, hb⟩ := hrel
    obtain ⟨n1, n2, _⟩ := cutS_le s k
    have hbs := hb.size
    by_cases hlt : k < s.size
    · have hbn := bn_le s k
      have hg := get_bn s k hlt
      by_cases h44 : bn s k = 44
      · have P := Lib.hid (cutS_hit h44)
        generalize cutS s k = p at hown n1 n2 P ⊢
        obtain ⟨ws, cur⟩ := p
        simp only at hown n1 n2 P
        have h44' : ((bn s k : Nat) : Int) = 44 := by omega
        rw [h44] at hg
        clear h44
        go_wp2_with (at_builtin; refine wpList_push rfl _ _ _ 9 rfl i0 Tryz.underlying57 hi (.string ⟨#[]⟩) 16 hz0 hz1 hz2 rfl (by omega) rfl rfl rfl hown hb hbs (by omega) ?_; intro v' w' hown' hb' hsz'; obtain ⟨A', c', rfl⟩ := ownsRow_form hown')
        go_roundw
        case rel =>
          refine ⟨k + 1, A', c', by omega, by go_num, ?_, ?_, ?_, hb'⟩
          · rw [P.out, List.length_append]; rfl
          · rw [P.out]
          · rw [P.out, List.length_append, List.map_append]; exact hown'
        case measure => simp [intOf]; omega
      · have P := Lib.hid (cutS_miss h44)
        generalize cutS s k = p at hown n1 n2 P ⊢
        obtain ⟨ws, cur⟩ := p
        simp only at hown n1 n2 P
        have h44' : ¬ ((bn s k : Nat) : Int) = 44 := by omega
        have esz : (s.extract k (k + 1)).size ≤ 1 := by rw [ByteArray.size_extract]; omega
        clear h44
        go_wp2
        go_roundw
        case rel =>
          refine ⟨k + 1, A, c, by omega, by go_num, ?_, ?_, ?_, hb⟩
          · rw [P.out]
          · rw [P.out]
          · rw [P.out]; exact hown
        case measure => simp [intOf]; omega
    · obtain rfl : k = s.size := by omega
      have hw : cutW s = (cutS s s.size).1 ++ [(cutS s s.size).2] := rfl
      have HW := Lib.hid hw
      clear hw
      generalize cutS s s.size = p at hown n1 n2 HW ⊢
      obtain ⟨ws, cur⟩ := p
      simp only at hown n1 n2 HW
      go_wp2_with (at_builtin; refine wpList_push rfl _ _ _ 9 rfl i0 Tryz.underlying57 hi (.string ⟨#[]⟩) 16 hz0 hz1 hz2 rfl (by omega) rfl rfl rfl hown hb hbs (by omega) ?_; intro v' w' hown' hb' hsz'; obtain ⟨A', c', rfl⟩ := ownsRow_form hown')
      go_ret
      rw [HW.out]
      have hown2 : w'.ownsRow w.heap.size 9 1 (.slice A' (ws.length + 1) c') (ws.length + 1) ((ws ++ [cur]).map Value.string) := by rw [List.map_append]; exact hown'
      exact ⟨A', c', by rw [List.length_append]; rfl, (strs_of_row hown2).2, hb'⟩

/-- What l2Num answers. -/
noncomputable def numS (x : ByteArray) : Int := if parB x = true then parN x else -100000
set_option maxRecDepth 100000 in
set_option maxHeartbeats 400000 in
theorem l2Num_any (x : ByteArray) (hx : x.size ≤ 1048576) (w : World) :
    Calls Tryz.prog 92 #[.string x] w fun e w' => e = .returned (.int .i64 (numS x)) ∧ Below w.heap.size w w' := by
  have XI := Lib.hid (spec_ParseInt x hx w)
  cases hp : parB x
  · have E := Lib.hid (show numS x = -100000 by unfold numS; rw [hp]; rfl)
    rw [hp] at XI
    generalize parN x = n at XI
    rw [E.out]
    go_enter Tryz.func92, Tryz.ntmps92
    go_wp2_with (go_at_call 107; refine XI.out.mono ?_; rintro e u ⟨rfl, d⟩)
    go_ret
    exact ⟨rfl, d⟩
  · have E := Lib.hid (show numS x = parN x by unfold numS; rw [hp]; rfl)
    rw [hp] at XI
    generalize parN x = n at XI E
    rw [E.out]
    go_enter Tryz.func92, Tryz.ntmps92
    go_wp2_with (go_at_call 107; refine XI.out.mono ?_; rintro e u ⟨rfl, d⟩)
    go_ret
    exact ⟨rfl, d⟩
/-- What l2Rel answers. -/
noncomputable def relS (h : ByteArray) : Int := if 2 ≤ h.size ∧ bn h 0 = 114 then numS (h.extract 1 h.size) else -1
set_option maxRecDepth 100000 in
set_option maxHeartbeats 400000 in
theorem l2Rel_any (h : ByteArray) (hx : h.size ≤ 1048576) (w : World) :
    Calls Tryz.prog 94 #[.string h] w fun e w' => e = .returned (.int .i64 (relS h)) ∧ Below w.heap.size w w' := by
  have hs' : (h.size : Int) ≤ 1048576 := by omega
  by_cases h2 : 2 ≤ h.size
  · have hb := bn_le h 0
    have hg := get_bn h 0 (by omega)
    have hsz : (h.extract 1 h.size).size ≤ 1048576 := by rw [ByteArray.size_extract]; omega
    by_cases h0 : bn h 0 = 114
    · have E := Lib.hid (show relS h = numS (h.extract 1 h.size) from if_pos ⟨h2, h0⟩)
      rw [E.out]
      have h0' : ((bn h 0 : Nat) : Int) = 114 := by omega
      rw [h0] at hg
      have XN := Lib.hid (l2Num_any (h.extract 1 h.size) hsz)
      clear h0
      go_enter Tryz.func94, Tryz.ntmps94
      go_wp2_with (go_at_call 92; refine (XN.out _).mono ?_; rintro e u ⟨rfl, d⟩)
      go_ret
      exact ⟨rfl, d⟩
    · have E := Lib.hid (show relS h = -1 from if_neg fun e => h0 e.2)
      rw [E.out]
      have h0' : ¬ ((bn h 0 : Nat) : Int) = 114 := by omega
      have h0'' : (((bn h 0 : Nat) : Int) != 114) = true := by simp; omega
      go_enter Tryz.func94, Tryz.ntmps94
      go_wp2
      go_ret
      exact ⟨rfl, Below.refl _ _⟩
  · have E := Lib.hid (show relS h = -1 from if_neg fun e => h2 e.1)
    rw [E.out]
    go_enter Tryz.func94, Tryz.ntmps94
    go_wp2
    go_ret
    exact ⟨rfl, Below.refl _ _⟩
end Go.Proofs.YtfhlmindkogdoaaGreatDoor
