/- slices.SortFunc of lists of numbers by slices.Compare. Conditions: none beyond each theorem's own. -/
import Derived.Test.YtighalbnpgmdfaaGreatCmpT
import Derived.Test.YtighalbnpgmdfaaGreatTupO
import Derived.Shelf.SlSortCmp.Whole1
import Derived.Shelf.SlSortCmp.NoneTotal
import Derived.Shelf.Lay
import Derived.Ground.SlsfProg
namespace Go.Proofs
open Go.Shelf Go.RowKit Go.Lib Go.Sort
shelf_lay_g SlLaysF.n6 Slsf 6 at Tryz 72 as Tryz.sortTups
end Go.Proofs
namespace Go.Proofs.YtighalbnpgmdfaaGreat
open Go.ChangeShapes Go.WideShapes Go.ChangeAt Go.RowKit Go.Sort
set_option linter.unusedVariables false
set_option linter.unusedSimpArgs false

/-- A list of the call's own: its numbers, its slice, the block that they lie in. -/
abbrev El (W : World) (lo hi : Nat) := {p : List Int × Value × Nat // OwnV W lo hi p.2.1 p.2.2 p.1 ∧ p.1.length ≤ 1048576}
instance (W : World) (lo hi : Nat) : Inhabited (El W lo hi) := ⟨⟨([], .slice none 0 0, 0), ⟨none, 0, rfl, Nat.le_refl _, by unfold maxLen; omega, fun h => absurd h (by decide)⟩, by simp⟩⟩
def encE {W : World} {lo hi : Nat} (x : El W lo hi) : Value := x.1.2.1
def cmpE {W : World} {lo hi : Nat} (x y : El W lo hi) : Int := cmpL x.1.1 y.1.1
theorem ltE {W : World} {lo hi : Nat} (x y : El W lo hi) : (ltOf cmpE x y = true ↔ ltL x.1.1 y.1.1) ∧ (ltOf cmpE x y = false ↔ ¬ ltL x.1.1 y.1.1) := by
  unfold ltOf cmpE ltL
  exact ⟨decide_eq_true_iff, decide_eq_false_iff_not⟩
theorem swoE {W : World} {lo hi : Nat} : SWO (ltOf (cmpE (W := W) (lo := lo) (hi := hi))) where
  irrefl x := (ltE x x).2.2 (ltL_irrefl _)
  trans x y z h1 h2 := (ltE x z).1.2 (ltL_trans ((ltE x y).1.1 h1) ((ltE y z).1.1 h2))
  ntrans x y z h1 h2 := (ltE x z).2.2 fun h => by
    have a := (ltE x y).2.1 h1
    have b := (ltE y z).2.1 h2
    by_cases e : x.1.1 = y.1.1
    · exact b (e ▸ h)
    · exact b (ltL_trans (ltL_total a e) h)
theorem grownBy_putRow {α : Type} [Inhabited α] (enc : α → Value) {w : World} {g n : Nat} {os : Array Obj} (d : Array α) : w.grownBy (grow (putRow enc (Sort.ahead w n) g 0 d) os) (some g) := by
  refine ⟨rfl, rfl, rfl, by simp, fun k hk hne => ?_⟩
  rw [heap_grow_old _ _ (by simpa using hk)]
  have : g ≠ k := fun e => hne (by rw [e])
  simp [putRow, mapBlock, Sort.ahead, Array.getElem?_modify, this]
theorem sortKeeps {W : World} {lo hi g m : Nat} {os : Array Obj} {dk : Array (El W lo hi)} {v : Value} {q : Nat} {xs : List Int} (h : OwnV W lo hi v q xs) (hh : hi ≤ W.heap.size) (ht : ∃ c fr, W.heap[g]? = some (.cells c 22 fr)) : OwnV (sortWorld encE W g 0 m dk os) lo hi v q xs := by
  have hg : W.grownBy (sortWorld encE W g 0 m dk os) (some g) := grownBy_putRow encE dk
  refine h.keep fun _ hq ⟨c, hc⟩ => hg.block q (by omega) fun e => ?_
  injection e with e
  obtain ⟨c', fr, hg'⟩ := ht
  rw [← e, hc] at hg'
  injection hg' with hg'
  injection hg' with _ h2
  exact absurd h2 (by decide)
theorem cmpLaysE (W : World) (lo hi blk size : Nat) (ht : ∃ c fr, W.heap[blk]? = some (.cells c 22 fr)) (hh : hi ≤ W.heap.size) : CmpLays1 Tryz.prog 73 #[] (encE (W := W) (lo := lo) (hi := hi)) cmpE blk 0 size W := fun m os dk _ x y => by
  obtain ⟨⟨xs, v, q⟩, ox, lx⟩ := x
  obtain ⟨⟨ys, v', q'⟩, oy, ly⟩ := y
  have hg : W.grownBy (sortWorld encE W blk 0 m dk os) (some blk) := grownBy_putRow encE dk
  have hs := hg.size
  have ox' := sortKeeps (m := m) (os := os) (dk := dk) ox hh ht
  have oy' := sortKeeps (m := m) (os := os) (dk := dk) oy hh ht
  obtain ⟨A, c, ev, _, _, _⟩ := id ox
  obtain ⟨A', c', ev', _, _, _⟩ := id oy
  simp only at ev ev' ox' oy' lx ly
  subst ev ev'
  have hx := ox'.ints.2.2.2
  have hy := oy'.ints.2.2.2
  refine (slicesCompare_any A A' c c' xs ys (by omega) (by omega) _ (hx.mono (Nat.zero_le _) (by omega)) (hy.mono (Nat.zero_le _) (by omega))).mono ?_
  rintro e u ⟨rfl, rfl⟩
  exact ⟨rfl, 0, #[], by simp [World.drewN]⟩
theorem flat0 {W : World} {lo hi : Nat} (d : Array (El W lo hi)) {k : Nat} (hk : k < d.size) : (d.toList.map encE)[k]? = some d[k]!.1.2.1 := by
  rw [List.getElem?_map, Array.getElem?_toList, Array.getElem?_eq_getElem hk, getElem!_pos d k hk]
  rfl

set_option maxHeartbeats 2000000 in
set_option maxRecDepth 100000 in
theorem tsort_any (W : World) (base : Nat) (v : Value) (ts : TL) (cs : List Value) (bs : Nat → Nat) (hn : ts.Nodup) (hl : ts.length ≤ 1048576) (hz : ∀ t ∈ ts, t.length ≤ 1048576) (h : OwnCT W base W.heap.size v ts cs bs) :
    Calls Tryz.prog 72 #[v, .func (.func 73) #[] #[]] W fun e w' => e = .returned (.tuple #[]) ∧
      (∃ r cs' bs', OwnCT w' base w'.heap.size v r cs' bs' ∧ r.length = ts.length ∧ AscT r ∧ r.Perm ts) ∧ W.grownBy w' v.ownBlock := by
  obtain ⟨A, cap, rfl⟩ := h.form
  rcases h.addr with ⟨rfl, rfl⟩ | ⟨g, rfl⟩
  · refine (AnyF.slices_SortFunc_none { Tryz.sortTups with } none cap _ W).mono ?_
    rintro e w' ⟨rfl, rfl⟩
    exact ⟨rfl, ⟨[], cs, bs, h, rfl, List.Pairwise.nil, List.Perm.refl _⟩, World.grownBy.refl _ _⟩
  · have hI := h.2
    have ho := h.1
    have each : ∀ i, i < ts.length → ∃ x : El W base W.heap.size, x.1.1 = ts.getD i [] ∧ cs[i]? = some x.1.2.1 ∧ x.1.2.2 = bs i := fun i hi => by
      obtain ⟨v1, e1, hv⟩ := hI.2.1 i hi
      exact ⟨⟨(ts.getD i [], v1, bs i), hv, hz _ (getD_memT hi)⟩, rfl, e1, rfl⟩
    obtain ⟨f, hf⟩ := Go.Deep.choose_lt each
    obtain ⟨d, hd⟩ : ∃ d : Array (El W base W.heap.size), d = ((List.range ts.length).map f).toArray := ⟨_, rfl⟩
    have hds : d.size = ts.length := by rw [hd]; simp
    have hdg : ∀ k, k < ts.length → d[k]! = f k := fun k hk => by
      rw [getElem!_pos d k (by omega)]
      subst hd
      simp
    have hdl : ∀ k, k < d.size → d.toList[k]? = some d[k]! := fun k hk => by rw [Array.getElem?_toList, Array.getElem?_eq_getElem hk, getElem!_pos d k hk]
    have hmt : d.toList.map (fun x => x.1.1) = ts := by
      apply List.ext_getElem?
      intro k
      by_cases hk : k < ts.length
      · rw [List.getElem?_map, hdl k (by omega), hdg k hk, Option.map_some, (hf k hk).1, List.getD_eq_getElem?_getD, List.getElem?_eq_getElem hk]
        rfl
      · rw [List.getElem?_eq_none (by simp; omega), List.getElem?_eq_none (by omega)]
    obtain ⟨cur, hb0, hb, h1, h2, h3, h4⟩ : ∃ cur : Array Value, base ≤ g ∧ W.heap[g]? = some (.cells cur 22 (0, 0)) ∧ ts.length ≤ cap ∧ cap ≤ maxLen ∧ cur.size = cap * 1 ∧ cur.toList.take (ts.length * 1) = cs := by
      rcases ho.2 with ⟨h0, _⟩ | ⟨g', cap', cur, hv, hb0, hb, h1, h2, h3, h4⟩
      · cases h0
      · injection hv with hv hv1 hv2
        injection hv with hv
        injection hv with hv
        subst hv hv2
        exact ⟨cur, hb0, hb, h1, h2, h3, h4⟩
    have hgW : g < W.heap.size := (Array.getElem?_eq_some_iff.1 hb).1
    have hH : Holds encE W g 0 d := fun j hj => by
      have hj' : j < ts.length := by omega
      obtain ⟨_, e1, _⟩ := hf j hj'
      refine ⟨?_, ?_⟩
      · rw [Nat.zero_add, ho.cellAt j (by omega), hdg j hj']
        exact e1
      · simp [World.frozen?, hb]
    have eg : ∀ args w, (callFunc 73 args).run Tryz.prog w = .ok (.enter 73 args) w := enters_of Tryz.func73 (by kernel_rfl) rfl
    have hone : OneCell (encE (W := W) (lo := base) (hi := W.heap.size)) := fun x => by
      obtain ⟨⟨xs, v1, q⟩, ox, lx⟩ := x
      obtain ⟨A, c, ev, _, _, _⟩ := ox
      simp only at ev
      subst ev
      rfl
    have hcon := Any.slices_SortFunc Tryz.sortTups encE hone cmpE swoE 73 #[] g 0 cap d W eg (cmpLaysE W base W.heap.size g d.size ⟨_, _, hb⟩ (Nat.le_refl _)) hH hgW (by omega)
    change Calls Tryz.prog 72 _ _ _ at hcon
    rw [hds] at hcon
    refine hcon.mono ?_
    rintro e w' ⟨rfl, d', n, os, ⟨hs', _, hp⟩, hsorted, rfl⟩
    have hs2 : d'.size = ts.length := by omega
    have x1 : d'.extract 0 ts.length = d' := by rw [← hs2]; simp
    have x2 : d.extract 0 ts.length = d := by rw [← hds]; simp
    rw [x1, x2] at hp
    have hp2 : (d'.toList.map (fun x => x.1.1)).Perm ts := by
      have := hp.map (fun x => x.1.1)
      rwa [hmt] at this
    have hnd : (d'.toList.map (fun x => x.1.1)).Nodup := hp2.symm.nodup hn
    have hdl' : ∀ k, k < d'.size → d'.toList[k]? = some d'[k]! := fun k hk => by rw [Array.getElem?_toList, Array.getElem?_eq_getElem hk, getElem!_pos d' k hk]
    have hgd : ∀ k, k < ts.length → (d'.toList.map (fun x => x.1.1))[k]? = some d'[k]!.1.1 := fun k hk => by
      rw [List.getElem?_map, hdl' k (by omega)]
      rfl
    have hlen' : (d'.toList.map (fun x => x.1.1)).length = ts.length := by simp [hs2]
    have hasc : AscT (d'.toList.map (fun x => x.1.1)) := by
      show List.Pairwise ltL _
      rw [List.pairwise_iff_getElem]
      intro i j hi' hj' hij
      have a := List.getElem?_eq_getElem hi'
      have b := List.getElem?_eq_getElem hj'
      rw [hgd i (by omega)] at a
      rw [hgd j (by omega)] at b
      injection a with a
      injection b with b
      have hne : (d'.toList.map (fun x => x.1.1))[i] ≠ (d'.toList.map (fun x => x.1.1))[j] := (List.pairwise_iff_getElem.1 hnd) i j hi' hj' hij
      rw [← a, ← b] at hne ⊢
      exact ltL_total ((ltE _ _).2.1 (hsorted i j (Nat.zero_le _) hij (by omega))) (fun e => hne e.symm)
    have hgb : W.grownBy (sortWorld encE W g 0 n d' os) (some g) := grownBy_putRow encE d'
    have hgD : ∀ k, k < ts.length → (d'.toList.map (fun x => x.1.1)).getD k [] = d'[k]!.1.1 := fun k hk => by
      rw [List.getD_eq_getElem?_getD, hgd k hk]
      rfl
    refine ⟨rfl, ⟨d'.toList.map (fun x => x.1.1), d'.toList.map encE, fun k => d'[k]!.1.2.2, ⟨?_, by simp, fun k hk => ?_, ?_⟩, hlen', hasc, hp2⟩, hgb⟩
    · rw [hlen']
      refine ⟨by simp [hs2], .inr ⟨g, cap, putCells encE 0 d' cur, rfl, hb0, ?_, h1, h2, by simp [putCells, h3], ?_⟩⟩
      · show (grow (putRow encE (Sort.ahead W n) g 0 d') os).heap[g]? = _
        rw [heap_grow_old _ _ (by simpa using hgW)]
        simp [putRow, mapBlock, Sort.ahead, Array.getElem?_modify, hb, onCells]
      · apply List.ext_getElem?
        intro j
        by_cases hj : j < ts.length * 1
        · rw [List.getElem?_take_of_lt hj, flat0 d' (by omega), Array.getElem?_toList]
          simp [putCells, hs2, encE, show j < ts.length by omega, show j < cur.size by omega]
        · rw [List.getElem?_take_eq_none (by omega), List.getElem?_eq_none (by simp; omega)]
    · rw [hlen'] at hk
      refine ⟨d'[k]!.1.2.1, flat0 d' (by omega), ?_⟩
      rw [hgD k hk]
      exact (sortKeeps (m := n) (os := os) (dk := d') d'[k]!.2.1 (Nat.le_refl _) ⟨_, _, hb⟩).mono (Nat.le_refl _) hgb.size
    · have hP : List.Pairwise (fun x y : El W base W.heap.size => 0 < x.1.1.length → 0 < y.1.1.length → x.1.2.2 ≠ y.1.2.2) d.toList := by
        rw [List.pairwise_iff_getElem]
        intro i j hi' hj' hij h1 h2
        have hi2 : i < ts.length := by simpa [hds] using hi'
        have hj2 : j < ts.length := by simpa [hds] using hj'
        have ei : d.toList[i] = f i := by rw [← hdg i hi2, getElem!_pos d i (by omega), Array.getElem_toList]
        have ej : d.toList[j] = f j := by rw [← hdg j hj2, getElem!_pos d j (by omega), Array.getElem_toList]
        rw [ei] at h1 ⊢
        rw [ej] at h2 ⊢
        obtain ⟨a1, _, a2⟩ := hf i hi2
        obtain ⟨b1, _, b2⟩ := hf j hj2
        rw [a1] at h1
        rw [b1] at h2
        rw [a2, b2]
        exact hI.2.2 i j hij hj2 h1 h2
      have hP2 := (hp.pairwise_iff (fun {x y} h a b e => h b a e.symm)).2 hP
      intro i j hij hj h1 h2
      rw [hlen'] at hj
      rw [hgD i (by omega)] at h1
      rw [hgD j hj] at h2
      have := (List.pairwise_iff_getElem.1 hP2) i j (by simp; omega) (by simp; omega) hij
      simp only [Array.getElem_toList] at this
      rw [← getElem!_pos d' i (by omega), ← getElem!_pos d' j (by omega)] at this
      exact this h1 h2
end Go.Proofs.YtighalbnpgmdfaaGreat
