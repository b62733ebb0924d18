/- What the program's ParseInt answers. Conditions: none beyond each theorem's own. -/
import Derived.Test.YtenondgjipmhnaaDoorParseS
import Derived.Laws.RangeAny
namespace Go.Proofs.YtenondgjipmhnaaDoor
open Go.ChangeShapes Go.WideShapes Go.ChangeAt Go.RowKit
set_option linter.unusedVariables false

theorem pn_le9 (s : ByteArray) {i : Nat} (h : i ≤ 9) : pn s i ≤ 999999999 := by
  have h1 := pn_lt s i
  have h2 : 10 ^ i ≤ 10 ^ 9 := Nat.pow_le_pow_right (by omega) h
  have h3 : 10 ^ 9 = 1000000000 := by decide
  omega
theorem trim_at (s t : ByteArray) (et : (⟨(Lib.trimPrefix s.data.toList (⟨#[45]⟩ : ByteArray).data.toList).toArray⟩ : ByteArray) = t) (W : World) :
    Calls Tryd.prog 51 #[.string s, .string ⟨#[45]⟩] W fun e w' => e = .returned (.string t) ∧ W = w' := by
  refine (Tryd.strings_TrimPrefix s ⟨#[45]⟩ W).mono ?_
  rintro e w' ⟨rfl, rfl⟩
  exact ⟨ret_str et, rfl⟩

set_option maxRecDepth 100000 in
set_option maxHeartbeats 400000 in
theorem impl_ParseInt_long (s t : ByteArray) (d : Nat) (et : (⟨(Lib.trimPrefix s.data.toList (⟨#[45]⟩ : ByteArray).data.toList).toArray⟩ : ByteArray) = t) (c : Cut s t d) (hm : s.size ≤ 1048576) (hl : 9 < t.size) (w : World) :
    Calls Tryd.prog 50 #[.string s] w fun e w' => e = .returned (.tuple #[.int .i64 (parN s), .bool (parB s)]) ∧ Below w.heap.size w w' := by
  have TP := Lib.hid (trim_at s t et)
  have E := Lib.hid (par_no (c.long hl))
  have hts : t.size ≤ 1048576 := by have := c.size; omega
  clear et c
  go_enter Tryd.func50, Tryd.ntmps50
  go_wp2_with (go_at_call 51; refine (TP.out _).mono ?_; rintro e w' ⟨rfl, rfl⟩)
  go_ret2
  exact ⟨ret_ib E.out.2.symm E.out.1.symm, Below.refl _ _⟩

set_option maxRecDepth 100000 in
set_option maxHeartbeats 400000 in
theorem impl_ParseInt_short (s t : ByteArray) (d : Nat) (et : (⟨(Lib.trimPrefix s.data.toList (⟨#[45]⟩ : ByteArray).data.toList).toArray⟩ : ByteArray) = t) (c : Cut s t d) (hm : s.size ≤ 1048576) (hl : t.size ≤ 9) (w : World) (ht : Tab w) :
    Calls Tryd.prog 50 #[.string s] w fun e w' => e = .returned (.tuple #[.int .i64 (parN s), .bool (parB s)]) ∧ Below w.heap.size w w' := by
  have TP := Lib.hid (trim_at s t et)
  have HT := Lib.hid (Lib.tabBelow_of_tabIs ht)
  have C := Lib.hid c
  clear et ht c
  go_enter Tryd.func50, Tryd.ntmps50
  go_wp2_with (go_at_call 51; refine (TP.out _).mono ?_; rintro e w' ⟨rfl, rfl⟩)
  go_loopw [5] (fun n wr => ∃ pos : Nat, pos ≤ t.size ∧ wr = w.iter t pos ∧ n = .int .i64 (pn t pos) ∧ Hid (∀ j, j < pos → isD (bn t j))) (fun _ wr => t.size - wr.iterPos w.heap.size)
  case atStart => exact ⟨0, by omega, rfl, rfl, Lib.hid (by omega)⟩
  case round =>
    obtain ⟨pos, hp, rfl, rfl, hH⟩ := hrel
    have hn := pn_le9 t (show pos ≤ 9 by omega)
    have hn' : ((pn t pos : Nat) : Int) ≤ 999999999 := by omega
    clear hn
    by_cases hlt : pos < t.size
    · have hb := bn_le t pos
      have hg := get_bn t pos hlt
      by_cases hlow : bn t pos < 128
      · have hnx := fun ty => run_next_ascii (P := Tryd.prog) w t pos ty hlt (by rw [hg]; exact hlow)
        rw [hg] at hnx
        clear hg
        by_cases hd : isD (bn t pos)
        · have P := Lib.hid (pn_succ t pos)
          have D := Lib.hid hd
          have d1 : 48 ≤ bn t pos := hd.1
          have d2 : bn t pos ≤ 57 := hd.2
          clear hd
          go_wp2
          go_roundw
          case rel => exact ⟨pos + 1, by omega, rfl, by rw [P.out, if_pos D.out]; go_num, Lib.hid (fun j hj => by
            by_cases e : j = pos
            · rw [e]; exact D.out
            · exact hH.out j (by omega))⟩
          case measure => simp; omega
        · have E := Lib.hid (par_no (C.out.bad hlt hd))
          by_cases d1 : 48 ≤ bn t pos
          · have d2 : ¬ bn t pos ≤ 57 := fun h => hd ⟨d1, h⟩
            clear hd
            go_wp2
            go_ret2
            exact ⟨ret_ib E.out.2.symm E.out.1.symm, (Below.refl _ _).alloc (Nat.le_refl _) _⟩
          · clear hd
            go_wp2
            go_ret2
            exact ⟨ret_ib E.out.2.symm E.out.1.symm, (Below.refl _ _).alloc (Nat.le_refl _) _⟩
      · have hdh := decode_high t pos hlt (by rw [hg]; omega)
        have hdl := decode_le t pos
        have hnx := fun ty => run_next_any (P := Tryd.prog) w t pos ty hlt
        obtain ⟨r, er⟩ : ∃ r, (Utf8.decode t pos).1 = r := ⟨_, rfl⟩
        rw [er] at hdh hdl hnx
        have hr1 := hdh.1
        have E := Lib.hid (par_no (C.out.bad hlt (by unfold isD; omega)))
        clear hg er hdh hlow
        go_wp2
        go_ret2
        exact ⟨ret_ib E.out.2.symm E.out.1.symm, (Below.refl _ _).alloc (Nat.le_refl _) _⟩
    · have hnx := fun ty => run_next_end (P := Tryd.prog) w t pos ty hlt
      obtain rfl : pos = t.size := by omega
      have cn := C.out.num hl hH.out
      have csz := C.out.size
      have cle := C.out.le
      have HT1 := Lib.hid (HT.out (w.iter t t.size) ((Below.refl _ _).alloc (Nat.le_refl _) _))
      by_cases hd1 : d = 1
      · have PN : Hid (pN s = -(pn t t.size : Int)) := Lib.hid (by rw [cn.2.2, if_pos hd1])
        have hlen : t.size < s.size := by omega
        clear csz cle hd1
        by_cases c3 : fmtI (-(pn t t.size : Int)) = s
        · have OK := Lib.hid (par_yes (s := s) ⟨cn.1, cn.2.1, by rw [PN.out]; exact c3⟩)
          have c4 : ((fmtI (-(pn t t.size : Int))).toList == s.toList) = true := by rw [c3]; simp
          have c5 : (fmtI (-(pn t t.size : Int))).toList = s.toList := by rw [c3]
          clear c3 cn
          go_wp2_with (go_at_call 24; refine (impl_FormatInt (-(pn t t.size : Int)) (by omega) (by omega) _ HT1.out).mono ?_; rintro e w' ⟨rfl, hb1⟩)
          go_ret2
          exact ⟨ret_ib (by rw [OK.out.2, PN.out]) OK.out.1.symm, ((Below.refl _ _).alloc (Nat.le_refl _) _).trans (hb1.mono (by simp [World.iter]))⟩
        · have E := Lib.hid (par_no (s := s) fun h => c3 (by rw [← PN.out]; exact h.2.2))
          have c5 : ¬ (fmtI (-(pn t t.size : Int))).toList = s.toList := fun h => c3 (by
            rw [ByteArray.toList_eq, ByteArray.toList_eq] at h
            apply ByteArray.ext; apply Array.toList_inj.1; exact h)
          have c6 : ((fmtI (-(pn t t.size : Int))).toList == s.toList) = false := by simpa using c5
          have c7 : ((fmtI (-(pn t t.size : Int))).toList != s.toList) = true := by simpa using c5
          clear c3 cn
          go_wp2_with (go_at_call 24; refine (impl_FormatInt (-(pn t t.size : Int)) (by omega) (by omega) _ HT1.out).mono ?_; rintro e w' ⟨rfl, hb1⟩)
          go_ret2
          exact ⟨ret_ib E.out.2.symm E.out.1.symm, ((Below.refl _ _).alloc (Nat.le_refl _) _).trans (hb1.mono (by simp [World.iter]))⟩
      · have PN : Hid (pN s = (pn t t.size : Int)) := Lib.hid (by rw [cn.2.2, if_neg hd1])
        have hlen : ¬ t.size < s.size := by omega
        clear csz cle hd1
        by_cases c3 : fmtI ((pn t t.size : Int)) = s
        · have OK := Lib.hid (par_yes (s := s) ⟨cn.1, cn.2.1, by rw [PN.out]; exact c3⟩)
          have c4 : ((fmtI ((pn t t.size : Int))).toList == s.toList) = true := by rw [c3]; simp
          have c5 : (fmtI ((pn t t.size : Int))).toList = s.toList := by rw [c3]
          clear c3 cn
          go_wp2_with (go_at_call 24; refine (impl_FormatInt ((pn t t.size : Int)) (by omega) (by omega) _ HT1.out).mono ?_; rintro e w' ⟨rfl, hb1⟩)
          go_ret2
          exact ⟨ret_ib (by rw [OK.out.2, PN.out]) OK.out.1.symm, ((Below.refl _ _).alloc (Nat.le_refl _) _).trans (hb1.mono (by simp [World.iter]))⟩
        · have E := Lib.hid (par_no (s := s) fun h => c3 (by rw [← PN.out]; exact h.2.2))
          have c5 : ¬ (fmtI ((pn t t.size : Int))).toList = s.toList := fun h => c3 (by
            rw [ByteArray.toList_eq, ByteArray.toList_eq] at h
            apply ByteArray.ext; apply Array.toList_inj.1; exact h)
          have c6 : ((fmtI ((pn t t.size : Int))).toList == s.toList) = false := by simpa using c5
          have c7 : ((fmtI ((pn t t.size : Int))).toList != s.toList) = true := by simpa using c5
          clear c3 cn
          go_wp2_with (go_at_call 24; refine (impl_FormatInt ((pn t t.size : Int)) (by omega) (by omega) _ HT1.out).mono ?_; rintro e w' ⟨rfl, hb1⟩)
          go_ret2
          exact ⟨ret_ib E.out.2.symm E.out.1.symm, ((Below.refl _ _).alloc (Nat.le_refl _) _).trans (hb1.mono (by simp [World.iter]))⟩

theorem impl_ParseInt (s : ByteArray) (hm : s.size ≤ 1048576) (w : World) (ht : Tab w) :
    Calls Tryd.prog 50 #[.string s] w fun e w' => e = .returned (.tuple #[.int .i64 (parN s), .bool (parB s)]) ∧ Below w.heap.size w w' := by
  obtain ⟨t, d, et, c⟩ := cut_of s
  by_cases hl : 9 < t.size
  · exact impl_ParseInt_long s t d et c hm hl w
  · exact impl_ParseInt_short s t d et c hm (by omega) w ht
end Go.Proofs.YtenondgjipmhnaaDoor
