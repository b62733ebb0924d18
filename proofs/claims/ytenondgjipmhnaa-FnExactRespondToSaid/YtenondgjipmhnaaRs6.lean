/- slices.SortFunc of a few facts of the call's own. Conditions: none beyond each theorem's own. -/
import Derived.Test.YtenondgjipmhnaaRs5
import Derived.Shelf.SlSortCmp.WholeK
namespace Go.Proofs.Ytenondgjipmhnaa
open Go.ChangeShapes Go.WideShapes Go.ChangeAt Go.RowKit Go.Sort
set_option linter.unusedVariables false
set_option linter.unusedSimpArgs false

theorem flat0 {W : World} {lo hi : Nat} (d : Array (El W lo hi)) {k : Nat} (hk : k < d.size) : (flatK encE 2 d)[k * 2]! = .int .i64 d[k]!.1.1.1 := by
  rw [get_flatK _ _ _ _ (by omega), show k * 2 / 2 = k by omega, show k * 2 % 2 = 0 by omega]
  rfl
theorem flat1 {W : World} {lo hi : Nat} (d : Array (El W lo hi)) {k : Nat} (hk : k < d.size) : (flatK encE 2 d)[k * 2 + 1]! = d[k]!.1.2.1 := by
  rw [get_flatK _ _ _ _ (by omega), show (k * 2 + 1) / 2 = k by omega, show (k * 2 + 1) % 2 = 1 by omega]
  rfl
theorem getE {α : Type} [Inhabited α] (F : Array α) {k : Nat} (hk : k < F.size) : F.toList[k]? = some F[k]! := by
  rw [Array.getElem?_toList, Array.getElem?_eq_getElem hk, getElem!_pos F k hk]

theorem sortFacts_any (W : World) (g cap lo hi base : Nat) (R : FL) (cs : List Value) (bs : Nat → Nat) (hn : R.Nodup) (h24 : R.length ≤ 1048576) (hz : ∀ k, k < R.length → (R.getD k (0, [])).2.length ≤ 1048576)
    (ho : W.ownsRow base 98 2 (.slice (some ⟨g, 0, none⟩) R.length cap) R.length cs) (hI : Items W lo hi R cs bs) (hg : hi ≤ g) (hh : hi ≤ W.heap.size) :
    Calls Try.prog 126 #[.slice (some ⟨g, 0, none⟩) R.length cap, .func (.func 122) #[] #[]] W fun e w' => e = .returned (.tuple #[]) ∧
      (∃ cs' bs', w'.ownsRow base 98 2 (.slice (some ⟨g, 0, none⟩) R.length cap) R.length cs' ∧ Items w' lo hi (addAll R []) cs' bs' ∧ (addAll R []).length = R.length) ∧ W.grownBy w' (some g) := by
  have each : ∀ i, i < R.length → ∃ x : El W lo hi, x.1.1 = R.getD i (0, []) ∧ cs[i * 2]? = some (.int .i64 x.1.1.1) ∧ cs[i * 2 + 1]? = some x.1.2.1 ∧ x.1.2.2 = bs i := fun i hi => by
    obtain ⟨e0, v1, e1, hv⟩ := hI.2.1 i hi
    exact ⟨⟨(R.getD i (0, []), v1, bs i), hv, hz i hi⟩, rfl, e0, e1, rfl⟩
  obtain ⟨f, hf⟩ := Go.Deep.choose_lt each
  obtain ⟨d, hd⟩ : ∃ d : Array (El W lo hi), d = ((List.range R.length).map f).toArray := ⟨_, rfl⟩
  have hds : d.size = R.length := by rw [hd]; simp
  have hdg : ∀ k, k < R.length → d[k]! = f k := fun k hk => by
    rw [getElem!_pos d k (by omega)]
    subst hd
    simp
  have hl : d.toList.map (fun x => x.1.1) = R := by
    apply List.ext_getElem?
    intro k
    by_cases hk : k < R.length
    · rw [List.getElem?_map, getE d (by omega), hdg k hk, Option.map_some, (hf k hk).1, List.getD_eq_getElem?_getD, List.getElem?_eq_getElem hk]
      rfl
    · rw [List.getElem?_eq_none (by simp; omega), List.getElem?_eq_none (by omega)]
  have hcl : cs.length = R.length * 2 := hI.1
  have hH : HoldsK encE 2 W g 0 d := fun j hj => by
    have hj' : j < R.length * 2 := by simpa [hds] using hj
    have hk : j / 2 < R.length := by omega
    obtain ⟨_, e0, e1, _⟩ := hf (j / 2) hk
    have hcj : cs[j]? = some (flatK encE 2 d)[j]! := by
      rcases Nat.mod_two_eq_zero_or_one j with h | h
      · have : j = j / 2 * 2 := by omega
        rw [this, flat0 d (by omega), hdg _ hk]
        exact e0
      · have : j = j / 2 * 2 + 1 := by omega
        rw [this, flat1 d (by omega), hdg _ hk]
        exact e1
    refine ⟨?_, ?_⟩
    · rw [Nat.zero_add, ho.cellAt j (by omega)]
      exact hcj
    · rcases ho.2 with ⟨h0, _⟩ | ⟨g', cap', cur, hv, _, hb, _⟩
      · cases h0
      · injection hv with hv
        injection hv with hv
        injection hv with hv
        subst hv
        simp [World.frozen?, hb]
  have hgW : g < W.heap.size := by
    rcases ho.2 with ⟨h0, _⟩ | ⟨g', cap', cur, hv, _, hb, _⟩
    · cases h0
    · injection hv with hv
      injection hv with hv
      injection hv with hv
      subst hv
      exact (Array.getElem?_eq_some_iff.1 hb).1
  have eg : ∀ args w, (callFunc 122 args).run Try.prog w = .ok (.enter 122 args) w := enters_of Try.func122 (by kernel_rfl) rfl
  have hone : ∀ (x : El W lo hi), ∀ v ∈ encE x, v.oneCell' = true := fun x v hv => by
    obtain ⟨⟨⟨r, xs⟩, v1, q⟩, ox, lx⟩ := x
    obtain ⟨A, c, ev, _, _, _⟩ := ox
    simp only at ev
    subst ev
    simp [encE] at hv
    rcases hv with rfl | rfl <;> rfl
  have hcon := AnyQ.slices_SortFunc Try.sortFacts 2 Try.isAgg98 Try.sizeOf98 encE (fun _ => rfl) hone cmpE swoE 122 #[] g 0 cap d W eg (cmpLaysE W lo hi g d.size hg hh) hH hgW (by omega)
  change Calls Try.prog 126 _ _ _ at hcon
  rw [hds] at hcon
  refine hcon.mono ?_
  rintro e w' ⟨rfl, d', n, os, ⟨hs', _, hp⟩, hsorted, rfl⟩
  have hs2 : d'.size = R.length := by omega
  have x1 : d'.extract 0 R.length = d' := by rw [← hs2]; simp
  have x2 : d.extract 0 R.length = d := by rw [← hds]; simp
  rw [x1, x2] at hp
  have hp2 : (d'.toList.map (fun x => x.1.1)).Perm R := by
    have := hp.map (fun x => x.1.1)
    rwa [hl] at this
  have hnd : (d'.toList.map (fun x => x.1.1)).Nodup := hp2.symm.nodup hn
  have hgd : ∀ k, k < R.length → (d'.toList.map (fun x => x.1.1))[k]? = some d'[k]!.1.1 := fun k hk => by
    rw [List.getElem?_map, getE d' (by omega)]
    rfl
  have hlen' : (d'.toList.map (fun x => x.1.1)).length = R.length := by simp [hs2]
  have hasc : AscF (d'.toList.map (fun x => x.1.1)) := by
    show List.Pairwise ltF _
    rw [List.pairwise_iff_getElem]
    intro i j hi' hj' hij
    have a := List.getElem?_eq_getElem hi'
    have b := List.getElem?_eq_getElem hj'
    rw [hgd i (by omega)] at a
    rw [hgd j (by omega)] at b
    injection a with a
    injection b with b
    have hne : (d'.toList.map (fun x => x.1.1))[i] ≠ (d'.toList.map (fun x => x.1.1))[j] := (List.pairwise_iff_getElem.1 hnd) i j hi' hj' hij
    rw [← a, ← b] at hne ⊢
    exact ltF_total ((ltE _ _).2.1 (hsorted i j (Nat.zero_le _) hij (by omega))) (fun e => hne e.symm)
  have HA := addAll_sorts hn hasc hp2
  rw [HA]
  have hgb : W.grownBy (sortWorldK encE 2 W g 0 n d' os) (some g) := grownBy_putRow id _
  have hgD : ∀ k, k < R.length → (d'.toList.map (fun x => x.1.1)).getD k (0, []) = d'[k]!.1.1 := fun k hk => by
    rw [List.getD_eq_getElem?_getD, hgd k hk]
    rfl
  have hfs : (flatK encE 2 d').size = R.length * 2 := by simp [hs2]
  refine ⟨rfl, ⟨(flatK encE 2 d').toList, fun k => d'[k]!.1.2.2, ?_, ⟨by rw [hlen', Array.length_toList, hfs], fun k hk => ?_, ?_⟩, hlen'⟩, hgb⟩
  · rcases ho.2 with ⟨h0, _⟩ | ⟨g', cap', cur, hv, hb0, hb, h1, h2, h3, h4⟩
    · cases h0
    · injection hv with hv hv1 hv2
      injection hv with hv
      injection hv with hv
      subst hv hv2
      refine ⟨by rw [Array.length_toList, hfs], .inr ⟨g, cap, putCells id 0 (flatK encE 2 d') cur, rfl, hb0, ?_, h1, h2, by simp [putCells, h3], ?_⟩⟩
      · show (grow (putRow id (Sort.ahead W n) g 0 (flatK encE 2 d')) os).heap[g]? = _
        rw [heap_grow_old _ _ (by simpa using hgW)]
        simp [putRow, mapBlock, Sort.ahead, Array.getElem?_modify, hb, onCells]
      · apply List.ext_getElem?
        intro j
        by_cases hj : j < R.length * 2
        · rw [List.getElem?_take_of_lt hj, getE (flatK encE 2 d') (by omega), Array.getElem?_toList]
          simp [putCells, hfs, hj, show j < cur.size by omega]
        · rw [List.getElem?_take_eq_none (by omega), List.getElem?_eq_none (by rw [Array.length_toList]; omega)]
  · rw [hlen'] at hk
    refine ⟨?_, d'[k]!.1.2.1, ?_, ?_⟩
    · rw [getE _ (by omega), flat0 d' (by omega), hgD k hk]
    · rw [getE _ (by omega), flat1 d' (by omega)]
    · rw [hgD k hk]
      exact OwnV.keep d'[k]!.2.1 fun _ hq _ => hgb.block _ (by omega) (by intro e; injection e with e; omega)
  · have hP : List.Pairwise (fun x y : El W lo hi => 0 < x.1.1.2.length → 0 < y.1.1.2.length → x.1.2.2 ≠ y.1.2.2) d.toList := by
      rw [List.pairwise_iff_getElem]
      intro i j hi' hj' hij h1 h2
      have hi2 : i < R.length := by simpa [hds] using hi'
      have hj2 : j < R.length := by simpa [hds] using hj'
      have ei : d.toList[i] = f i := by rw [← hdg i hi2, getElem!_pos d i (by omega), Array.getElem_toList]
      have ej : d.toList[j] = f j := by rw [← hdg j hj2, getElem!_pos d j (by omega), Array.getElem_toList]
      rw [ei] at h1 ⊢
      rw [ej] at h2 ⊢
      obtain ⟨a1, _, _, a2⟩ := hf i hi2
      obtain ⟨b1, _, _, b2⟩ := hf j hj2
      rw [a1] at h1
      rw [b1] at h2
      rw [a2, b2]
      exact hI.2.2 i j hij hj2 h1 h2
    have hP2 := (hp.pairwise_iff (fun {x y} h a b e => h b a e.symm)).2 hP
    intro i j hij hj h1 h2
    rw [hlen'] at hj
    rw [hgD i (by omega)] at h1
    rw [hgD j hj] at h2
    have := (List.pairwise_iff_getElem.1 hP2) i j (by simp; omega) (by simp; omega) hij
    simp only [Array.getElem_toList] at this
    rw [← getElem!_pos d' i (by omega), ← getElem!_pos d' j (by omega)] at this
    exact this h1 h2
end Go.Proofs.Ytenondgjipmhnaa
