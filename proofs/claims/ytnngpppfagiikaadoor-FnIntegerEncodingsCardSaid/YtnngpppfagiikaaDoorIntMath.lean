/- Each decoder gives back what was encoded: plain facts. Conditions: none beyond each theorem's own. -/
import Derived.Test.YtnngpppfagiikaaDoorDecVarMath
import Derived.Test.YtnngpppfagiikaaDoorDecFix
import Derived.Test.YtnngpppfagiikaaDoorEncFix
import Derived.Test.YtnngpppfagiikaaDoorHexMath
import Derived.Test.YtnngpppfagiikaaDoorParse
namespace Go.Proofs.YtnngpppfagiikaaDoor
open Go.RowKit
set_option linter.unusedVariables false

theorem data_app (a b : ByteArray) : (a ++ b).data.toList = a.data.toList ++ b.data.toList := by simp
theorem bn_app {a b : ByteArray} {j : Nat} (h : j < a.size) : bn (a ++ b) j = bn a j := by
  rw [bn_eq, bn_eq, data_app, List.getElem?_append_left (by rw [← size_eq']; exact h)]
theorem size_app (a b : ByteArray) : (a ++ b).size = a.size + b.size := by rw [size_eq', data_app, List.length_append, ← size_eq', ← size_eq']
theorem ba_ext {a b : ByteArray} (h : a.data.toList = b.data.toList) : a = b := by
  apply ByteArray.ext; apply Array.toList_inj.1; exact h

/-! ### Varints -/
theorem vl_vb : ∀ (f n : Nat), n < f → vl (vb n) = n
  | 0, n, h => by omega
  | f + 1, n, h => by
    by_cases h1 : n < 128
    · rw [vb_small h1]
      simp only [vl]
      rw [ofNat_toNat (by omega)]
      omega
    · rw [vb_big h1]
      simp only [vl]
      rw [vl_vb f (n / 128) (by omega), ofNat_toNat (by omega)]
      omega
theorem can_vb (n : Nat) : can (vb n) := (can_iff _).1 (by rw [vl_vb _ n (Nat.lt_succ_self n)])
theorem can_take : ∀ (l : List UInt8) (j : Nat), can l → j < l.length → ¬ can (l.take j)
  | [], j, h, _ => h.elim
  | [b], j, _, hj => by
    have : j = 0 := by simpa using hj
    subst this
    simp [can]
  | b :: c :: l, 0, _, _ => by simp [can]
  | b :: c :: l, 1, h, _ => by
    have := h.1
    simp [can]
    omega
  | b :: c :: l, j + 2, h, hj => fun hc => can_take (c :: l) (j + 1) h.2.1 (by simpa using hj) hc.2.1
theorem vb_pos (n : Nat) : 1 ≤ (vb n).length := by
  have := vb_ne n
  cases h : vb n with
  | nil => exact absurd h this
  | cons => simp
theorem varint_round {n : Nat} (h : n ≤ 562949953421311) (t : ByteArray) : dvK ((⟨(vb n).toArray⟩ : ByteArray) ++ t) = (vb n).length ∧ dvN ((⟨(vb n).toArray⟩ : ByteArray) ++ t) = n := by
  have h7 := vb_len7 h
  have h1 := vb_pos n
  have hsz : ((⟨(vb n).toArray⟩ : ByteArray) ++ t).size = (vb n).length + t.size := by rw [size_app]; rfl
  have htk : ∀ j, j ≤ (vb n).length → tk ((⟨(vb n).toArray⟩ : ByteArray) ++ t) j = (vb n).take j := fun j hj => by
    unfold tk
    rw [data_app, List.take_append_of_le_length hj]
  have hk : dvK ((⟨(vb n).toArray⟩ : ByteArray) ++ t) = (vb n).length := by
    refine sr_one _ 7 1 _ h1 (by omega) (by omega) ?_ fun j h2 h3 h4 => ?_
    · rw [good_iff _ (by omega), htk _ (Nat.le_refl _), List.take_of_length_le (Nat.le_refl _)]
      exact can_vb n
    · rw [good_iff _ h4, htk j (by omega)]
      exact can_take _ _ (can_vb n) h3
  refine ⟨hk, ?_⟩
  unfold dvN
  rw [hk, ← vl_tk _ _ (by omega), htk _ (Nat.le_refl _), List.take_of_length_le (Nat.le_refl _), vl_vb _ n (Nat.lt_succ_self n)]

theorem varI_size (n : Int) : (varI n).size ≤ 7 := by
  rw [size_eq']
  unfold varI
  by_cases h : 0 ≤ n ∧ n ≤ 562949953421311
  · rw [if_pos h]
    exact vb_len7 (by omega)
  · rw [if_neg h]; simp

theorem varI_in {u : Nat} (h : u ≤ 562949953421311) (t : ByteArray) : (varI u).toList.isEmpty = false ∧ dvN (varI u ++ t) = u ∧ dvK (varI u ++ t) = (varI u).size := by
  have e : varI (u : Int) = ⟨(vb u).toArray⟩ := by unfold varI; rw [if_pos (by omega), Int.toNat_natCast]
  have hr := varint_round h t
  have hp := vb_pos u
  rw [e]
  refine ⟨?_, hr.2, by rw [hr.1]; rfl⟩
  rw [ByteArray.toList_eq]
  show (vb u).isEmpty = false
  cases hv : vb u with
  | nil => rw [hv] at hp; simp at hp
  | cons => rfl
theorem varI_out {n : Int} (h : n < 0 ∨ 562949953421311 < n) : (varI n).toList = [] ∧ (varI n).toList.isEmpty = true := by
  have e : varI n = ⟨#[]⟩ := by unfold varI; rw [if_neg (by omega)]
  rw [e, ByteArray.toList_eq]
  exact ⟨rfl, rfl⟩

/-! ### Fixed widths -/
theorem be_get (N : Nat) : ∀ (w j : Nat), j < w → (be N w)[j]? = some (UInt8.ofNat (dq N (w - 1 - j) % 256))
  | 0, j, h => by omega
  | w + 1, 0, _ => by simp [be]
  | w + 1, j + 1, h => by
    rw [be, List.getElem?_cons_succ, be_get N w j (by omega)]
    congr 4
    omega
theorem fixed_round {N w : Nat} (hz : dq N w = 0) (t : ByteArray) : ∀ k, k ≤ w → decN ((⟨(be N w).toArray⟩ : ByteArray) ++ t) k = dq N (w - k)
  | 0, _ => by simp [decN, hz]
  | k + 1, h => by
    rw [decN, fixed_round hz t k (by omega), bn_app (by rw [size_eq']; show k < (be N w).length; rw [be_length]; omega), bn_eq]
    rw [show ((⟨(be N w).toArray⟩ : ByteArray).data.toList) = be N w from rfl, be_get N w k (by omega)]
    have e : dq N (w - k) = dq N (w - (k + 1)) / 256 := by rw [← dq_succ]; congr 1; omega
    rw [e]
    simp only [Option.map_some, Option.getD_some]
    rw [ofNat_toNat (by omega), show w - 1 - k = w - (k + 1) by omega]
    omega

theorem fixedI_full {n y : Int} (h : ¬ (fixedI n y).toList = []) (t : ByteArray) : 1 ≤ y ∧ y ≤ 7 ∧ 0 ≤ n ∧ ((fixedI n y).size : Int) = y ∧ dFixN (fixedI n y ++ t) y = n ∧ dFixB (fixedI n y ++ t) y = true := by
  have hr : 1 ≤ y ∧ y ≤ 7 ∧ 0 ≤ n := by
    apply Classical.byContradiction
    intro hc
    apply h
    rw [fixedI_out (by omega), ByteArray.toList_eq]
  obtain ⟨h1, h2, h3⟩ := hr
  obtain ⟨u, rfl⟩ := Int.eq_ofNat_of_zero_le h3
  obtain ⟨w, rfl⟩ := Int.eq_ofNat_of_zero_le (show 0 ≤ y by omega)
  rw [fixedI_in (by omega) (by omega)] at h ⊢
  have hz : dq u w = 0 := by
    apply Classical.byContradiction
    intro hc
    apply h
    unfold fixedS
    rw [if_neg hc, ByteArray.toList_eq]
  have e : fixedS u w = ⟨(be u w).toArray⟩ := by unfold fixedS; rw [if_pos hz]
  rw [e]
  have hs : (⟨(be u w).toArray⟩ : ByteArray).size = w := by rw [size_eq']; exact be_length u w
  have hst : ((⟨(be u w).toArray⟩ : ByteArray) ++ t).size = w + t.size := by rw [size_app, hs]
  refine ⟨h1, h2, h3, by rw [hs], ?_, ?_⟩
  · unfold dFixN
    rw [if_pos (by rw [hst]; omega), Int.toNat_natCast, fixed_round hz t w (Nat.le_refl _), Nat.sub_self, dq_zero]
  · unfold dFixB
    exact decide_eq_true (by rw [hst]; omega)
theorem fixedI_size (n y : Int) : (fixedI n y).size ≤ 7 := by
  unfold fixedI
  split
  · rename_i h
    rw [size_eq']
    unfold fixedS
    split
    · show (be n.toNat y.toNat).length ≤ 7
      rw [be_length]; omega
    · simp
  · rw [size_eq']; simp

/-! ### Hex -/
theorem hv_hx {k : Nat} (h : k < 16) : hv (hx k) = k := hv_hit h rfl
theorem hxs_get (t : ByteArray) : ∀ (k i : Nat), i < k → (hxs t k)[2 * i]? = some (hx (bn t i / 16) : Int) ∧ (hxs t k)[2 * i + 1]? = some (hx (bn t i % 16) : Int)
  | 0, i, h => by omega
  | k + 1, i, h => by
    have hl := hxs_length t k
    rw [hxs]
    by_cases e : i = k
    · subst e
      rw [List.getElem?_append_right (by omega), List.getElem?_append_right (by omega), hl]
      simp
    · have ih := hxs_get t k i (by omega)
      rw [List.getElem?_append_left (by omega), List.getElem?_append_left (by omega)]
      exact ih
theorem hexS_size (t : ByteArray) : (hexS t).size = 2 * t.size := by rw [size_eq']; unfold hexS; simp [hxs_length]
theorem hexS_bn (t : ByteArray) {i : Nat} (h : i < t.size) : bn (hexS t) (2 * i) = hx (bn t i / 16) ∧ bn (hexS t) (2 * i + 1) = hx (bn t i % 16) := by
  have hg := hxs_get t t.size i h
  have hb := bn_le t i
  have h1 := hx_le (show bn t i / 16 < 16 by omega)
  have h2 := hx_le (show bn t i % 16 < 16 by omega)
  refine ⟨?_, ?_⟩
  · rw [bn_eq (hexS t)]
    unfold hexS
    simp only [List.getElem?_map, hg.1, Option.map_some, Option.getD_some, Int.toNat_natCast]
    rw [ofNat_toNat (by omega)]
  · rw [bn_eq (hexS t)]
    unfold hexS
    simp only [List.getElem?_map, hg.2, Option.map_some, Option.getD_some, Int.toNat_natCast]
    rw [ofNat_toNat (by omega)]
theorem hexS_ok (t : ByteArray) : hexOk (hexS t) = true := by
  refine hexOk_all (by rw [hexS_size]; omega) fun j hj => ?_
  rw [hexS_size] at hj
  have hb := bn_le t (j / 2)
  have h := hexS_bn t (show j / 2 < t.size by omega)
  by_cases e : j % 2 = 0
  · rw [show j = 2 * (j / 2) by omega, h.1, hv_hx (by omega)]; omega
  · rw [show j = 2 * (j / 2) + 1 by omega, h.2, hv_hx (by omega)]; omega
theorem hexS_round (t : ByteArray) : hexD (hexS t) = t := by
  rw [hexD_yes (hexS_ok t), hexS_size, show 2 * t.size / 2 = t.size by omega]
  apply ba_ext
  apply List.ext_getElem?
  intro i
  by_cases hi : i < t.size
  · have h := hexS_bn t hi
    have hb := bn_le t i
    obtain ⟨b, e, eb⟩ := bn_list hi
    have hg := dhx_get (hexS t) t.size i hi
    rw [h.1, h.2, hv_hx (by omega), hv_hx (by omega)] at hg
    have hl : i < (dhx (hexS t) t.size).length := by rw [dhx_length]; exact hi
    have hg2 : (dhx (hexS t) t.size)[i]? = some ((bn t i : Nat) : Int) := by
      rw [List.getD_eq_getElem?_getD, List.getElem?_eq_getElem hl, Option.getD_some] at hg
      rw [List.getElem?_eq_getElem hl, hg]
      congr 1
      omega
    show ((dhx (hexS t) t.size).map fun n => UInt8.ofNat n.toNat)[i]? = _
    rw [List.getElem?_map, hg2, e]
    simp only [Option.map_some, Int.toNat_natCast]
    congr 1
    rw [u8_eq, ofNat_toNat (by omega), eb]
  · rw [List.getElem?_eq_none (by show ((dhx (hexS t) t.size).map _).length ≤ i; rw [List.length_map, dhx_length]; omega), List.getElem?_eq_none (by rw [← size_eq']; omega)]

/-! ### Decimals -/
theorem pn_congr {s t : ByteArray} : ∀ i, (∀ j, j < i → bn s j = bn t j) → pn s i = pn t i
  | 0, _ => rfl
  | i + 1, h => by rw [pn_succ, pn_succ, h i (by omega), pn_congr i fun j hj => h j (by omega)]
def T (u : Nat) : ByteArray := ⟨(Lib.decDigits u).toArray⟩
theorem T_size (u : Nat) : (T u).size = (Lib.decDigits u).length := by rw [size_eq']; rfl
theorem T_digit (u : Nat) {j : Nat} (h : j < (T u).size) : isD (bn (T u) j) := by
  obtain ⟨b, e, eb⟩ := bn_list h
  rw [← eb]
  exact dd_digits _ _ (Nat.lt_succ_self u) b (List.mem_of_getElem? e)
theorem pn_T : ∀ (f u : Nat), u < f → pn (T u) (T u).size = u
  | 0, u, h => by omega
  | f + 1, u, h => by
    by_cases h1 : u < 10
    · have e : Lib.decDigits u = [UInt8.ofNat (48 + u)] := Lib.decDigits_one h1
      have hb : bn (T u) 0 = 48 + u := by
        rw [bn_eq]; unfold T
        rw [e]
        show (UInt8.ofNat (48 + u)).toNat = _
        exact ofNat_toNat (by omega)
      rw [T_size, e]
      show pn (T u) 1 = u
      rw [pn_succ, hb, if_pos (by unfold isD; omega)]
      show 0 * 10 + (48 + u - 48) = u
      omega
    · have e : Lib.decDigits u = Lib.decDigits (u / 10) ++ [UInt8.ofNat (48 + u % 10)] := by rw [Lib.decDigits, dif_neg h1]
      have ih := pn_T f (u / 10) (by omega)
      have hs : (T u).size = (T (u / 10)).size + 1 := by rw [T_size, T_size, e, List.length_append]; rfl
      have hpre : ∀ j, j < (T (u / 10)).size → bn (T u) j = bn (T (u / 10)) j := fun j hj => by
        rw [bn_eq, bn_eq]; unfold T
        rw [e]
        rw [T_size] at hj
        show ((Lib.decDigits (u / 10) ++ [UInt8.ofNat (48 + u % 10)])[j]?.map _).getD 0 = ((Lib.decDigits (u / 10))[j]?.map _).getD 0
        rw [List.getElem?_append_left hj]
      have hlast : bn (T u) (T (u / 10)).size = 48 + u % 10 := by
        rw [bn_eq]; unfold T
        rw [e]
        show ((Lib.decDigits (u / 10) ++ [UInt8.ofNat (48 + u % 10)])[(T (u / 10)).size]?.map _).getD 0 = _
        rw [T_size, List.getElem?_append_right (Nat.le_refl _)]
        simp only [Nat.sub_self, List.getElem?_cons_zero, Option.map_some, Option.getD_some]
        exact ofNat_toNat (by omega)
      rw [hs, pn_succ, hlast, if_pos (by unfold isD; omega), pn_congr _ hpre, ih]
      omega
theorem dd_ge : ∀ (k u : Nat), 10 ^ k ≤ u → k + 1 ≤ (Lib.decDigits u).length
  | 0, u, h => by
    by_cases h1 : u < 10
    · rw [Lib.decDigits_one h1]; simp
    · rw [Lib.decDigits, dif_neg h1, List.length_append]; simp
  | k + 1, u, h => by
    have h10 : 10 ^ k * 10 ≤ u := by rw [← Nat.pow_succ]; exact h
    have hp : 1 ≤ 10 ^ k := Nat.one_le_pow _ _ (by omega)
    rw [Lib.decDigits, dif_neg (by omega), List.length_append]
    have := dd_ge k (u / 10) (by omega)
    simp only [List.length_cons, List.length_nil]
    omega
theorem dd_le (k u : Nat) (h : u < 10 ^ k) (hk : 1 ≤ k) : (Lib.decDigits u).length ≤ k := by
  by_cases h0 : u = 0
  · subst h0; rw [Lib.decDigits_one (by omega)]; simpa using hk
  · rw [← dd0_pos h0]; exact dd0_len k u h
/-- The text of a number is its sign and the text of its amount. -/
theorem cut_fmt (n : Int) : ∃ d, Cut (fmtI n) (T n.natAbs) d ∧ (d = 1 ↔ n < 0) := by
  by_cases h : n < 0
  · have e : (fmtI n).data.toList = 45 :: Lib.decDigits n.natAbs := by unfold fmtI; rw [Lib.itoa, if_pos h]
    refine ⟨1, ⟨?_, by omega, fun j _ => ?_, fun _ => ?_, fun h => by omega⟩, by simp [h]⟩
    · rw [size_eq', e, T_size]; rfl
    · rw [bn_eq, bn_eq, e]; rfl
    · rw [bn_eq, e]; rfl
  · have e : fmtI n = T n.natAbs := by unfold fmtI T; rw [Lib.itoa, if_neg h]; congr 3; omega
    refine ⟨0, ⟨by rw [e]; rfl, by omega, fun j _ => by rw [e]; rfl, fun h => by omega, fun _ hn => ?_⟩, by omega⟩
    rw [e] at hn
    have := T_digit n.natAbs hn.1
    rw [hn.2] at this
    unfold isD at this
    omega
theorem parse_small {n : Int} (h1 : -1000000000 < n) (h2 : n < 1000000000) : parB (fmtI n) = true ∧ parN (fmtI n) = n := by
  obtain ⟨d, c, hd⟩ := cut_fmt n
  have hlen := dd_le 9 n.natAbs (by have : 10 ^ 9 = 1000000000 := by decide
                                    omega) (by omega)
  have cn := c.num (by rw [T_size]; exact hlen) (fun j hj => T_digit _ hj)
  rw [pn_T _ _ (Nat.lt_succ_self n.natAbs)] at cn
  have e : pN (fmtI n) = n := by
    rw [cn.2.2]
    by_cases hn : n < 0
    · rw [if_pos (hd.2 hn)]; omega
    · rw [if_neg (fun h => hn (hd.1 h))]; omega
  have ok := par_yes (s := fmtI n) ⟨cn.1, cn.2.1, by rw [e]⟩
  exact ⟨ok.1, by rw [ok.2, e]⟩
theorem parse_big {n : Int} (h : n ≤ -1000000000 ∨ 1000000000 ≤ n) : parB (fmtI n) = false := by
  obtain ⟨d, c, hd⟩ := cut_fmt n
  have hlen := dd_ge 9 n.natAbs (by have : 10 ^ 9 = 1000000000 := by decide
                                    omega)
  exact (par_no (c.long (by rw [T_size]; omega))).1
theorem fmtI_size {n : Int} (h0 : -9223372036854775808 ≤ n) (h1 : n ≤ 9223372036854775807) : (fmtI n).size ≤ 1048576 := by
  obtain ⟨d, c, _⟩ := cut_fmt n
  have h := c.size
  have hd := c.le
  have hl := dd_le 19 n.natAbs (Nat.lt_of_le_of_lt (show n.natAbs ≤ 9223372036854775808 by omega) (by decide)) (by omega)
  rw [T_size] at h
  omega
end Go.Proofs.YtnngpppfagiikaaDoor
