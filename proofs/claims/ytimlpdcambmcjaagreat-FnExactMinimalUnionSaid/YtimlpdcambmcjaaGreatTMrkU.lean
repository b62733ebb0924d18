/- Marks on lists of queries. Conditions: none beyond each theorem's own. -/
import Derived.Test.YtimlpdcambmcjaaGreatS24
import Derived.Test.YtimlpdcambmcjaaGreatS20

namespace Go.Proofs.YtimlpdcambmcjaaGreat
open Go.ChangeShapes Go.WideShapes Go.ChangeAt Go.RowKit Go.Sort
open Go.Proofs.YtimlpdcambmcjaaGreat.atom
set_option linter.unusedVariables false
set_option linter.unusedSimpArgs false

/-- Where the marks of the query with this number begin. -/
def kU (k : Int) (us : UL) (j : Nat) : Int := k + (sumU (us.take j) : Int)
theorem kU_zero (k : Int) (us : UL) : kU k us 0 = k := by simp [kU, sumU]
theorem kU_succ (k : Int) {us : UL} {j : Nat} (hj : j < us.length) {hs : List Int} {l : FL} (hf : us.getD j noU = (hs, l)) : kU k us (j + 1) = kU k us j + (hs.length : Int) + szF l := by
  have h1 := sumU_take us j hj
  rw [hf] at h1
  unfold kU
  rw [h1]
  unfold nU szF
  push_cast
  omega
theorem kU_le (k : Int) (us : UL) (j : Nat) : k ≤ kU k us j ∧ kU k us j ≤ k + (sumU us : Int) := by
  have := sumU_le us j
  unfold kU
  omega
theorem kU_all (k : Int) (us : UL) : kU k us us.length = k + (sumU us : Int) := by simp [kU]
/-- The queries with their marks from k on. -/
def mkU (k : Int) (us : UL) : UL := (List.range us.length).map fun j => (marks (kU k us j) (us.getD j noU).1.length, mkK (kU k us j + ((us.getD j noU).1.length : Int)) (us.getD j noU).2 (us.getD j noU).2.length)
theorem mkU_length (k : Int) (us : UL) : (mkU k us).length = us.length := by simp [mkU]
theorem mkU_at (k : Int) {us : UL} {j : Nat} (hj : j < us.length) {hs : List Int} {l : FL} (hf : us.getD j noU = (hs, l)) : (mkU k us).getD j noU = (marks (kU k us j) hs.length, mkK (kU k us j + (hs.length : Int)) l l.length) := by
  unfold mkU
  rw [List.getD_eq_getElem?_getD, List.getElem?_map, List.getElem?_range hj]
  simp only [Option.map_some, Option.getD_some]
  rw [hf]

set_option maxRecDepth 100000 in
set_option maxHeartbeats 4000000 in
/-- The marks of a list of queries of the call's own. -/
theorem markQueryS_own (lo hi g m c : Nat) (us : UL) (k : Int) (h0 : 0 ≤ k) (h1 : k ≤ 8388608) (hz : szU us ≤ 1048576) (hm : us.length * 2 ≤ m) (w : World) (h : OwnU w lo hi g m us.length us) :
    Calls Tryz.prog 26 #[.slice (some ⟨g, 0, none⟩) us.length c, .int .i64 k] w fun e w' => e = .returned (.int .i64 (k + (sumU us : Int))) ∧ Within lo hi w w' ∧ Uns w' lo hi (some ⟨g, 0, none⟩) (mkU k us) := by
  have hul := szU_len hz
  have hul' : (us.length : Int) ≤ 1048576 := by omega
  have hsum : (sumU us : Int) ≤ 1048576 := by unfold szU at hz; omega
  obtain ⟨hlg, hgh, hhw, F, P, Q, hr, he, hd⟩ := h
  obtain ⟨Z, hZ⟩ := Go.Deep.choose_lt (n := us.length) (p := fun j (z : Option Addr × Nat × Option Addr × Nat × Nat) => F (j * 2) = .slice z.1 (us.getD j noU).1.length z.2.1 ∧ F (j * 2 + 1) = .slice z.2.2.1 (us.getD j noU).2.length z.2.2.2.1 ∧
      (us.getD j noU).2.length ≤ z.2.2.2.1 ∧ z.2.2.2.1 ≤ maxLen ∧ QO w (P j) z.2.2.2.2 (Q j) z.1 z.2.2.1 z.2.1 z.2.2.2.1 (us.getD j noU).1 (us.getD j noU).2 ∧ lo ≤ P j ∧ Q j ≤ hi ∧ (g < P j ∨ Q j ≤ g)) (fun j hj => by
    obtain ⟨H, ch, B, cb, mid, a⟩ := he j hj
    exact ⟨(H, ch, B, cb, mid), a⟩)
  have HZ := Lib.hid hZ
  have HD := Lib.hid hd
  have HR := Lib.hid hr
  clear he hZ hd hr
  go_enter Tryz.func26, Tryz.ntmps26
  go_wp2
  go_loopw [1, 5] (fun kk i wr => ∃ j : Nat, j ≤ us.length ∧ i = .int .i64 j ∧ kk = .int .i64 (kU k us j) ∧ Hid (Within lo hi w wr) ∧ Hid (wr.rowIs g 29 m F) ∧
    Hid (∀ t, t < j → Ints wr (P t) (Q t) (Z t).1 (marks (kU k us t) (us.getD t noU).1.length) ∧ Facts wr (P t) (Q t) (Z t).2.2.1 (mkK (kU k us t + ((us.getD t noU).1.length : Int)) (us.getD t noU).2 (us.getD t noU).2.length)) ∧
    Hid (∀ t, j ≤ t → t < us.length → QO wr (P t) (Z t).2.2.2.2 (Q t) (Z t).1 (Z t).2.2.1 (Z t).2.1 (Z t).2.2.2.1 (us.getD t noU).1 (us.getD t noU).2)) (fun _ i _ => us.length - (intOf i).toNat)
  case atStart => exact ⟨0, by omega, rfl, by rw [kU_zero], Lib.hid (Within.refl _ _ _), HR, Lib.hid (fun t ht => by omega), Lib.hid (fun t _ ht => (HZ.out t ht).2.2.2.2.1)⟩
  case round =>
    obtain ⟨j, hj, rfl, rfl, hW, hRow, hM, hQ⟩ := hrel
    have hj0 : (0 : Int) ≤ (j : Int) := by omega
    by_cases hlt : j < us.length
    · have hj1 : (j : Int) < (us.length : Int) := by omega
      generalize hf : us.getD j noU = f
      obtain ⟨hs, l⟩ := f
      have HF := Lib.hid hf
      obtain ⟨hsz, hhl, hll⟩ := szU_elem hz hlt hf
      obtain ⟨z1, z2, z3, z4, z5, z6, z7, z8⟩ := HZ.out j hlt
      have hq := hQ.out j (Nat.le_refl _) hlt
      rw [hf] at z1 z2 z3 z5 hq
      have HKS := Lib.hid (kU_succ k hlt hf)
      have hkl := kU_le k us j
      have hkl2 := kU_le k us (j + 1)
      rw [HKS.out] at hkl2
      have hn := szF_nonneg l
      have ZA := Lib.hid (show lo ≤ P j ∧ Q j ≤ hi ∧ (g < P j ∨ Q j ≤ g) from ⟨z6, z7, z8⟩)
      have DJ := Lib.hid (fun t (ht : t < us.length) (hne : t ≠ j) => HD.out t j ht hlt hne)
      generalize hzz : Z j = z at *
      obtain ⟨H, ch, B, cb, mid⟩ := z
      simp only at z1 z2 z3 z4 z5 hq
      generalize hpp : P j = pj at *
      generalize hqq : Q j = qj at *
      have HZZ := Lib.hid hzz
      have HPP := Lib.hid hpp
      have HQQ := Lib.hid hqq
      obtain ⟨⟨q0, hO⟩, hA, e1, e2, e3⟩ := id hq
      have c0 := World.rowIs.cell hRow.out (show j * 2 < m by omega)
      have c1 := World.rowIs.cell hRow.out (show j * 2 + 1 < m by omega)
      rw [z1] at c0
      rw [z2] at c1
      generalize hkk : kU k us j = kj at *
      have hkj0 : 0 ≤ kj := by omega
      have hkj1 : 0 ≤ kj + (hs.length : Int) := by omega
      have HKK := Lib.hid hkk
      have XM := Lib.hid (markIntS_own pj mid q0 H ch kj hs hhl (by omega) (by omega) wr (by omega) e1 hO)
      have HA := Lib.hid hA
      clear hf z1 z2 z3 z4 z5 z6 z7 z8 hq hO hA hzz hpp hqq hkk
      have hge := ZA.out
      go_wp2_with fail
      refine XM.out.mono ?_
      rintro e w1 ⟨rfl, hw1, hi1⟩
      have c3 : w1.cell? ⟨g, j * 2 + 1, none⟩ = some (.slice B l.length cb) := (World.cell?_of_block (w := wr) (a := ⟨g, j * 2 + 1, none⟩) (hw1.block g (by omega))).trans c1
      have HW1 := Lib.hid hw1
      have HI1 := Lib.hid hi1
      have hs1 := hw1.size
      have XA := Lib.hid (markAtomS_own mid qj B cb (kj + hs.length) l hll (by omega) (by omega) w1 (by
        rcases HA.out with h | ⟨g', m', e, h, hm'⟩
        · exact .inl h
        · exact .inr ⟨g', m', e, h.keep fun b a _ => hw1.block b (.inr a), hm'⟩))
      clear hw1 hi1 c0 c1 hs1
      go_wp2_with fail
      refine XA.out.mono ?_
      rintro e w2 ⟨rfl, hw2, hf2⟩
      have HW2 := Lib.hid hw2
      have HF2 := Lib.hid hf2
      have K12 := Lib.hid (show ∀ b, b < pj ∨ qj ≤ b → w2.heap[b]? = wr.heap[b]? from fun b hb => (hw2.block b (by omega)).trans (HW1.out.block b (by omega)))
      have S12 := Lib.hid (show wr.heap.size ≤ w2.heap.size by rw [hw2.size, HW1.out.size]; exact Nat.le_refl _)
      clear hw2 hf2 c3 hge
      go_wp2
      go_roundw
      case rel =>
        refine ⟨j + 1, by omega, by go_num, by rw [HKS.out], Lib.hid ((hW.out.trans (HW1.out.mono (by have := ZA.out; omega) (by have := ZA.out; omega))).trans (HW2.out.mono (by have := ZA.out; omega) (by have := ZA.out; omega))), Lib.hid (World.rowIs.of_block hRow.out (K12.out g (by have := ZA.out; omega))), Lib.hid (fun t ht => ?_), Lib.hid (fun t h1 ht => ?_)⟩
        · by_cases e : t = j
          · subst e
            rw [HF.out, HPP.out, HQQ.out, HZZ.out, HKK.out]
            exact ⟨(HI1.out.keep fun b _ hb => HW2.out.block b (.inl hb)).mono (Nat.le_refl _) e2, HF2.out.mono e1 (Nat.le_refl _)⟩
          · obtain ⟨a1, a2⟩ := hM.out t (by omega)
            have := DJ.out t (by omega) e
            exact ⟨a1.keep fun b x y => K12.out b (by omega), a2.keep fun b x y => K12.out b (by omega)⟩
        · have := DJ.out t ht (by omega)
          exact (hQ.out t (by omega) ht).keep (fun b x y => K12.out b (by omega)) S12.out
      case measure => simp [intOf]; omega
    · obtain rfl : j = us.length := by omega
      have EK := Lib.hid (kU_all k us)
      go_wp2
      go_ret
      refine ⟨ret_int EK.out, hW.out, fun _ => ⟨g, 0, rfl, hlg, hgh, fun t ht => ?_⟩⟩
      rw [mkU_length] at ht
      obtain ⟨z1, z2, z3, z4, z5, z6, z7, z8⟩ := HZ.out t ht
      obtain ⟨a1, a2⟩ := hM.out t ht
      obtain ⟨⟨q0, hO⟩, _⟩ := z5
      have hI := hO.ints
      generalize hf : us.getD t noU = f at *
      obtain ⟨hs, l⟩ := f
      rw [mkU_at k ht hf]
      simp only [marks_length, mkK_length]
      refine ⟨(Z t).1, (Z t).2.1, (Z t).2.2.1, (Z t).2.2.2.1, ?_, ?_, hI.2.1, hI.2.2.1, z3, z4, a1.mono z6 z7, a2.mono z6 z7⟩
      · rw [Nat.zero_add, World.rowIs.cell hRow.out (show t * 2 < m by omega), z1]
      · rw [Nat.zero_add, World.rowIs.cell hRow.out (show t * 2 + 1 < m by omega), z2]

set_option maxRecDepth 100000 in
set_option maxHeartbeats 1000000 in
theorem heldQueryS_any (A : Option Addr) (c : Nat) (us : UL) (k : Int) (h0 : 0 ≤ k) (h1 : k ≤ 1) (hz : szU us ≤ 1048576) (w : World) (h : RU w A (mkU k us)) :
    Calls Tryz.prog 34 #[.slice A us.length c, .int .i64 k] w fun e w' => e = .returned (.int .i64 (k + (sumU us : Int))) ∧ w = w' := by
  have hul := szU_len hz
  have hul' : (us.length : Int) ≤ 1048576 := by omega
  have hsum : (sumU us : Int) ≤ 1048576 := by unfold szU at hz; omega
  have HU := Lib.hid h
  clear h
  go_enter Tryz.func34, Tryz.ntmps34
  go_wp2
  go_loop [1, 5] (fun kk i => ∃ j : Nat, j ≤ us.length ∧ i = .int .i64 j ∧ kk = .int .i64 (kU k us j)) (fun _ i => us.length - (intOf i).toNat)
  case atStart => exact ⟨0, by omega, rfl, by rw [kU_zero]⟩
  case round =>
    obtain ⟨j, hj, rfl, rfl⟩ := hrel
    have hj0 : (0 : Int) ≤ (j : Int) := by omega
    by_cases hlt : j < us.length
    · have hj1 : (j : Int) < (us.length : Int) := by omega
      generalize hf : us.getD j noU = f
      obtain ⟨hs, l⟩ := f
      obtain ⟨hsz, hhl, hll⟩ := szU_elem hz hlt hf
      have HKS := Lib.hid (kU_succ k hlt hf)
      have hkl := kU_le k us j
      have hkl2 := kU_le k us (j + 1)
      rw [HKS.out] at hkl2
      have hn := szF_nonneg l
      obtain ⟨b, off, H, ch, B, c2, rfl, n1, e0, e1, _, _, _, _, hI, hJ⟩ := HU.out.at_ (by rw [mkU_length]; exact hlt) (mkU_at k hlt hf)
      rw [marks_length] at e0
      rw [mkK_length] at e1
      generalize hkk : kU k us j = kj at *
      have hkj0 : 0 ≤ kj := by omega
      have hkj1 : 0 ≤ kj + (hs.length : Int) := by omega
      have hkj2 : 0 ≤ kj + (hs.length : Int) + szF l := by omega
      have X1 := Lib.hid (heldIntS_any _ _ H ch hs.length kj w hhl (by omega) (by omega) hI)
      have X2 := Lib.hid (heldAtomS_any B c2 (kj + hs.length) l (by omega) (by omega) (by omega) w hJ)
      clear hf hI hJ hkk
      go_wp2_with fail
      refine X1.out.mono ?_
      rintro e w1 ⟨rfl, rfl⟩
      go_wp2_with fail
      refine X2.out.mono ?_
      rintro e w1 ⟨rfl, rfl⟩
      go_wp2
      go_round
      case rel => exact ⟨j + 1, by omega, by go_num, by rw [HKS.out]⟩
      case measure => simp [intOf]; omega
    · obtain rfl : j = us.length := by omega
      have EK := Lib.hid (kU_all k us)
      go_wp2
      go_ret
      exact ⟨ret_int EK.out, rfl⟩
end Go.Proofs.YtimlpdcambmcjaaGreat
