/- slices.Insert of one element into a row without room. Conditions: none beyond each theorem's own. What impl.AddFact answers, over insertOnce. Conditions: none beyond each theorem's own. What impl.AddFact answers. Conditions: none beyond each theorem's own. -/
import Derived.Test.YtpdmkdhnidgjoaaFz7
import Derived.Laws.IdiomCopy
import Derived.Lib.AppendZerosOnto
import Derived.Lib.LazyBuf
import Derived.Lib.AppendStr
import Derived.Shelf.Spec.SlicesInsert
import Derived.Laws.NewBlocks
import Derived.Test.YtpdmkdhnidgjoaaFz4

namespace Go.Proofs.Ytpdmkdhnidgjoaa
open Go.ChangeShapes Go.WideShapes Go.ChangeAt Go.RowKit Go.Sort Go.Lib
set_option linter.unusedVariables false
set_option linter.unusedSimpArgs false


set_option maxRecDepth 100000 in
set_option maxHeartbeats 1000000 in
theorem insertF_mid (b n i vb : Nat) (cs vs : List Value) (w : World) (hi : i < n) (hn : n ≤ 1048576) (hcl : cs.length = n * 2) (hvl : vs.length = 2) (hbw : b < w.heap.size) (hvw : vb < w.heap.size)
    (hcs : ∀ j v, cs[j]? = some v → w.cell? ⟨b, j, none⟩ = some v) (hvs : ∀ j v, vs[j]? = some v → w.cell? ⟨vb, j, none⟩ = some v) (h1c : ∀ v ∈ cs, v.oneCell' = true) (h1v : ∀ v ∈ vs, v.oneCell' = true) (R : List Value) (hR : R = cs.take (i * 2) ++ vs ++ cs.drop (i * 2)) :
    Calls Try.prog 127 #[.slice (some ⟨b, 0, none⟩) n n, .int .i64 i, .slice (some ⟨vb, 0, none⟩) 1 1] w (InsOut w 70 2 (n + 1) R) := by
  obtain ⟨i0, hi0, hz0, hzs, hzb⟩ := info_parts fact_info
  have hsz : (Try.prog.info? 70).map (·.size) = some 2 := by rw [hi0]; simp [hzs]
  have hold : (Builtin.firstCells i0.size i (.slice (some ⟨b, 0, none⟩) i n)).run Try.prog w.drew = .ok (cs.take (i * 2)).toArray w.drew := by
    rw [hzs]
    exact run_firstCells_some w.drew 2 i ⟨b, 0, none⟩ i n (cs.take (i * 2)) (by rw [List.length_take]; omega) (fun j v hj => by
      rw [Addr.add_lit, Nat.zero_add]
      rw [List.getElem?_take] at hj
      split at hj
      · exact hcs j v hj
      · cases hj)
  obtain ⟨G, hG⟩ : ∃ G, G = grownCap w (n + 1) n 70 := ⟨_, rfl⟩
  obtain ⟨ROW, hROW⟩ : ∃ ROW : Array Value, ROW = (cs.take (i * 2)).toArray ++ Builtin.zeroCells ((.agg #[.int .i64 0, .slice none 0 0] : Value).cells) (n + 1 - i) ++ Builtin.zeroCells ((.agg #[.int .i64 0, .slice none 0 0] : Value).cells) (G - (n + 1)) := ⟨_, rfl⟩
  have hrz : ∀ ty, (Builtin.append_ #[27, 3] ty #[.slice (some ⟨b, 0, none⟩) i n, .int .i64 ((n : Int) + 1 - (i : Int))]).run Try.prog w =
      .ok (.slice (some ⟨w.heap.size, 0, none⟩) (n + 1) G) (w.drew.alloc (.cells ROW 70)) := fun ty => by
    have h := Lib.run_append_grow_zeros w 27 3 ty 70 i0 _ .i64 .i64 Try.underlying27 Try.underlying3 hi0 hz0 (some ⟨b, 0, none⟩) i n (cs.take (i * 2)) hold (n + 1 - i) (by omega) (by omega) (by omega) (by omega) (by rw [hzb]; omega) (by rw [hzb, show i + (n + 1 - i) = n + 1 by omega]; exact growslice_fits (by omega) (by omega))
    rw [show i + (n + 1 - i) = n + 1 by omega, ← hG, ← hROW] at h
    rw [show (n : Int) + 1 - (i : Int) = ((n + 1 - i : Nat) : Int) by omega]
    exact h
  have hGn : n + 1 ≤ G := by rw [hG]; exact grownCap_ge w _ _ _
  have hGm : G ≤ maxLen := by rw [hG]; exact grownCap_le_maxLen w (n + 1) n 70 (by unfold maxLen; omega)
  have hRs : ROW.size = G * 2 := by
    rw [hROW]
    simp [Builtin.zeroCells, Value.cells, hcl]
    omega
  have hR0 : ∀ (j : Nat) (v : Value), (cs.take (i * 2))[j]? = some v → ROW[j]? = some v := fun j v hj => by
    have hlt := (List.getElem?_eq_some_iff.1 hj).1
    rw [hROW, Array.getElem?_append_left (by simp at hlt ⊢; omega), Array.getElem?_append_left (by simp at hlt ⊢; omega)]
    simpa using hj
  obtain ⟨W1, hW1⟩ : ∃ W1, W1 = w.drew.alloc (.cells ROW 70) := ⟨_, rfl⟩
  have hH : W1.heap[w.heap.size]? = some (.cells ROW 70 (0, 0)) := by rw [hW1]; exact heap_alloc_new w.drew _
  have hN : ∀ j, j < (n + 1) * 2 → (W1.cell? ⟨w.heap.size, j, none⟩).isSome = true := fun j hj => by
    rw [hW1, World.cell?_alloc_at (w := w.drew) ROW _ w.heap.size j rfl, Array.getElem?_eq_getElem (by omega)]; rfl
  have hNf : ∀ j, W1.frozen? ⟨w.heap.size, j, none⟩ = false := fun j => by rw [hW1]; exact World.frozen?_alloc_at (w := w.drew) ROW _ w.heap.size j rfl
  have hOb : ∀ j v, w.cell? ⟨b, j, none⟩ = some v → W1.cell? ⟨b, j, none⟩ = some v := fun j v h => by rw [hW1, World.cell?_alloc_past (w := w.drew) _ b j hbw]; exact h
  have hOv : ∀ j v, w.cell? ⟨vb, j, none⟩ = some v → W1.cell? ⟨vb, j, none⟩ = some v := fun j v h => by rw [hW1, World.cell?_alloc_past (w := w.drew) _ vb j hvw]; exact h
  have hcpA : ∀ (W : World), (∀ x, W.cell? x = W1.cell? x) → (∀ x, W.frozen? x = W1.frozen? x) → ∀ ty dc, (Builtin.copy_ #[27, 27] ty #[.slice (some ⟨w.heap.size, i * 2, none⟩) (n + 1 - i) dc, .slice (some ⟨vb, 0, none⟩) 1 1]).run Try.prog W = .ok (goInt 1) (W.setCells w.heap.size (i * 2) vs) := fun W hWc hWf ty dc => by
    have h := run_copyK (P := Try.prog) 2 W 27 27 ty 70 w.heap.size (i * 2) (n + 1 - i) dc ⟨vb, 0, none⟩ 1 1 vs Try.underlying27 hsz (by rw [hvl]; simp only [Nat.min_def]; split <;> omega)
      (fun j v hj => by rw [Addr.add_lit, Nat.zero_add, hWc]; exact hOv _ v (hvs j v hj))
      (fun j hj => by rw [hWc]; exact hN _ (by omega)) (fun j hj => by rw [hWf]; exact hNf _) h1v
    rw [show Nat.min 1 (n + 1 - i) = 1 by simp only [Nat.min_def]; split <;> omega] at h
    exact h
  have hbN : b ≠ w.heap.size := by omega
  have hdl : (cs.drop (i * 2)).length = (n - i) * 2 := by rw [List.length_drop]; omega
  have hcpB : ∀ (W : World), (∀ x, W.cell? x = (W1.setCells w.heap.size (i * 2) vs).cell? x) → (∀ x, W.frozen? x = (W1.setCells w.heap.size (i * 2) vs).frozen? x) → ∀ ty dc sc, (Builtin.copy_ #[27, 27] ty #[.slice (some ⟨w.heap.size, (i + 1) * 2, none⟩) (n + 1 - (i + 1)) dc, .slice (some ⟨b, i * 2, none⟩) (n - i) sc]).run Try.prog W = .ok (goInt ((n - i : Nat) : Int)) (W.setCells w.heap.size ((i + 1) * 2) (cs.drop (i * 2))) := fun W hWc hWf ty dc sc => by
    have h := run_copyK (P := Try.prog) 2 W 27 27 ty 70 w.heap.size ((i + 1) * 2) (n + 1 - (i + 1)) dc ⟨b, i * 2, none⟩ (n - i) sc (cs.drop (i * 2)) Try.underlying27 hsz (by rw [hdl]; simp only [Nat.min_def]; split <;> omega)
      (fun j v hj => by
        rw [Addr.add_lit, hWc, World.cell?_setCells_out _ _ _ _ _ (fun h _ => absurd h hbN)]
        exact hOb _ v (hcs (i * 2 + j) v (by rwa [List.getElem?_drop] at hj)))
      (fun j hj => by rw [hWc]; exact isSome_setCells _ _ _ _ (fun t ht => hN _ (by omega)) _ (hN _ (by omega)))
      (fun j hj => by rw [hWf, World.frozen?_setCells]; exact hNf _) (fun v hv => h1c v (List.mem_of_mem_drop hv))
    rw [show Nat.min (n - i) (n + 1 - (i + 1)) = n - i by simp only [Nat.min_def]; split <;> omega] at h
    exact h
  have HEND := Lib.hid (show InsOut w 70 2 (n + 1) R (.returned (.slice (some ⟨w.heap.size, 0, none⟩) (n + 1) G)) ((W1.setCells w.heap.size (i * 2) vs).setCells w.heap.size ((i + 1) * 2) (cs.drop (i * 2))) from
    ⟨G, rfl, hR ▸ ins_row hi hcl hvl hH hRs hGn hGm hR0 _ (Nat.le_refl _), Go.below_setCells (Nat.le_refl _) _ _ _ (Go.below_setCells (Nat.le_refl _) _ _ _ (by rw [hW1]; exact ((Below.refl _ w).drew).alloc (Nat.le_refl _) _))⟩)
  have hGi : ¬ (G = i) := by omega
  have hGim : ¬ (G = i + 1) := by omega
  have hni : ¬ (n = i) := by omega
  have hz2 : ((i : Int) == (n : Int)) = false := by simp; omega
  have hz3 : (n : Int) < (n : Int) + 1 := by omega
  have hGi' : (i : Int) + 1 ≤ (G : Int) := by omega
  have hGG : (n : Int) + 1 ≤ (G : Int) := by omega
  have hGM : (G : Int) ≤ 9223372036854775807 := by unfold maxLen at hGm; omega
  have hin : (i : Int) < (n : Int) := by omega
  have hn' : (n : Int) ≤ 1048576 := by omega
  have hE1 : ∀ x, ((w.alloc (.cells ROW 70)).drew).cell? x = W1.cell? x := fun x => by rw [hW1]; rfl
  have hE2 : ∀ x, ((w.alloc (.cells ROW 70)).drew).frozen? x = W1.frozen? x := fun x => by rw [hW1]; rfl
  have hF1 : ∀ x, (((w.alloc (.cells ROW 70)).drew.setCells w.heap.size (i * 2) vs).drew).cell? x = (W1.setCells w.heap.size (i * 2) vs).cell? x := fun x => by rw [hW1]; rfl
  have hF2 : ∀ x, (((w.alloc (.cells ROW 70)).drew.setCells w.heap.size (i * 2) vs).drew).frozen? x = (W1.setCells w.heap.size (i * 2) vs).frozen? x := fun x => by rw [hW1]; rfl
  have HEND2 := Lib.hid (show InsOut w 70 2 (n + 1) R (.returned (.slice (some ⟨w.heap.size, 0, none⟩) (n + 1) G)) ((((w.alloc (.cells ROW 70)).drew.setCells w.heap.size (i * 2) vs).drew).setCells w.heap.size ((i + 1) * 2) (cs.drop (i * 2))) from by
    have h := HEND.out
    rw [hW1] at h
    obtain ⟨G', e1, e2, e3⟩ := h
    refine ⟨G', e1, ?_, ?_⟩
    · rw [show ((((w.alloc (.cells ROW 70)).drew.setCells w.heap.size (i * 2) vs).drew).setCells w.heap.size ((i + 1) * 2) (cs.drop (i * 2))) = (((w.drew.alloc (.cells ROW 70)).setCells w.heap.size (i * 2) vs).setCells w.heap.size ((i + 1) * 2) (cs.drop (i * 2))).drew by simp only [drew_setCells]; rfl]
      exact e2.drew
    · rw [show ((((w.alloc (.cells ROW 70)).drew.setCells w.heap.size (i * 2) vs).drew).setCells w.heap.size ((i + 1) * 2) (cs.drop (i * 2))) = (((w.drew.alloc (.cells ROW 70)).setCells w.heap.size (i * 2) vs).setCells w.heap.size ((i + 1) * 2) (cs.drop (i * 2))).drew by simp only [drew_setCells]; rfl]
      exact e3.drew)
  have hrz2 : ∀ ty, (Builtin.append_ #[27, 3] ty #[.slice (some ⟨b, 0, none⟩) i n, .int .i64 ((n : Int) + 1 - (i : Int))]).run Try.prog w = .ok (.slice (some ⟨w.heap.size, 0, none⟩) (n + 1) G) (w.drew.alloc (.cells ROW 70)) := hrz
  have hw1 : IntKind.i64.wrap ((i : Int) + 1) = (i : Int) + 1 := by rw [IntKind.wrap_i64]; omega
  have hb1 : (0 : Int) ≤ (i : Int) + 1 := by omega
  have hin2 : (i : Int) ≤ (n : Int) := by omega
  have hin3 : i ≤ n := by omega
  have htn : ((i : Int) + 1).toNat = i + 1 := by omega
  clear hold hROW hG hRs hR0 hW1 hH HEND hN hNf hOb hOv hrz hR
  go_enter Try.func127, Try.ntmps127
  go_wp2_with (first
    | (at_builtin; refine Lib.wpList_append_run _ rfl _ _ _ _ rfl _ _ rfl rfl _ _ (hrz2 _) ?_)
    | (refine wpList_copy_runI _ rfl _ _ 27 27 rfl _ _ rfl rfl (hcpA _ hE1 hE2 _ _) ?_))
  go_frame
  go_region_law (refine step_copy_runI rfl _ _ 27 27 rfl (.slice (some ⟨w.heap.size, (i + 1) * 2, none⟩) (n + 1 - (i + 1)) (G - (i + 1))) (.slice (some ⟨b, i * 2, none⟩) (n - i) (n - i)) (by simp [Act.eval, Act.put]) (by simp [Act.eval, Act.put]) (hcpB _ hF1 hF2 3 (G - (i + 1)) (n - i)) ?_)
  go_wp2
  go_ret
  exact HEND2.out

set_option maxRecDepth 100000 in
set_option maxHeartbeats 1000000 in
theorem insertF_end (b n vb : Nat) (cs vs : List Value) (w : World) (hn : n ≤ 1048576) (hcl : cs.length = n * 2) (hvl : vs.length = 2) (hbw : b < w.heap.size) (hvw : vb < w.heap.size)
    (hcs : ∀ j v, cs[j]? = some v → w.cell? ⟨b, j, none⟩ = some v) (hvs : ∀ j v, vs[j]? = some v → w.cell? ⟨vb, j, none⟩ = some v) (h1v : ∀ v ∈ vs, v.oneCell' = true) :
    Calls Try.prog 127 #[.slice (some ⟨b, 0, none⟩) n n, .int .i64 n, .slice (some ⟨vb, 0, none⟩) 1 1] w (InsOut w 70 2 (n + 1) (cs ++ vs)) := by
  obtain ⟨i0, hi0, hz0, hzs, hzb⟩ := info_parts fact_info
  have hsrc : Src Try.prog i0.size 27 (.slice (some ⟨vb, 0, none⟩) 1 1) 1 vs w := by
    rw [hzs]
    exact Src.ofSlice w Try.underlying27 ⟨vb, 0, none⟩ 1 1 vs (by omega) (fun j u hj => by rw [Addr.add_lit, Nat.zero_add]; exact hvs j u hj) h1v
  have hold : (Builtin.firstCells i0.size n (.slice (some ⟨b, 0, none⟩) n n)).run Try.prog w.drew = .ok cs.toArray w.drew := by
    rw [hzs]
    exact run_firstCells_some w.drew 2 n ⟨b, 0, none⟩ n n cs (by omega) (fun j v hj => by rw [Addr.add_lit, Nat.zero_add]; exact hcs j v hj)
  obtain ⟨G, hG⟩ : ∃ G, G = grownCap w (n + 1) n 70 := ⟨_, rfl⟩
  obtain ⟨ROW, hROW⟩ : ∃ ROW : Array Value, ROW = (cs ++ vs).toArray ++ Builtin.zeroCells ((.agg #[.int .i64 0, .slice none 0 0] : Value).cells) (G - (n + 1)) := ⟨_, rfl⟩
  have hrun : ∀ ty, (Builtin.append_ #[27, 27] ty #[.slice (some ⟨b, 0, none⟩) n n, .slice (some ⟨vb, 0, none⟩) 1 1]).run Try.prog w = .ok (.slice (some ⟨w.heap.size, 0, none⟩) (n + 1) G) (w.drew.alloc (.cells ROW 70)) := fun ty => by
    have h := run_append_grow_src w 27 27 ty 70 i0 _ Try.underlying27 hi0 hz0 (some ⟨b, 0, none⟩) n n cs hold _ 1 vs hsrc (by omega) (by omega) (by rw [hzb]; exact growslice_fits (by omega) (by omega))
    rw [← hG, ← hROW] at h
    exact h
  have hGn : n + 1 ≤ G := by rw [hG]; exact grownCap_ge w _ _ _
  have hGm : G ≤ maxLen := by rw [hG]; exact grownCap_le_maxLen w (n + 1) n 70 (by unfold maxLen; omega)
  have HEND := Lib.hid (show InsOut w 70 2 (n + 1) (cs ++ vs) (.returned (.slice (some ⟨w.heap.size, 0, none⟩) (n + 1) G)) ((w.alloc (.cells ROW 70)).drew) from
    ⟨G, rfl, (end_row (W := w) (e := 70) (K := 2) hcl hvl (Z := (Builtin.zeroCells ((.agg #[.int .i64 0, .slice none 0 0] : Value).cells) (G - (n + 1))).toList) (by simp [Builtin.zeroCells, Value.cells]) hGn hGm ROW (by rw [hROW]; simp)).drew, ((Below.refl _ w).alloc (Nat.le_refl _) _).drew⟩)
  clear hold hROW hG hGn hGm
  go_enter Try.func127, Try.ntmps127
  go_wp2_with (at_builtin; refine Lib.wpList_append_run _ rfl _ _ _ _ rfl _ _ rfl rfl _ _ (hrun _) ?_)
  all_goals (go_ret; exact HEND.out)

end Go.Proofs.Ytpdmkdhnidgjoaa

namespace Go.Proofs.Ytpdmkdhnidgjoaa
open Go.ChangeShapes Go.WideShapes Go.ChangeAt Go.RowKit Go.Sort
set_option linter.unusedVariables false
set_option linter.unusedSimpArgs false

/-- The end of an insertion: the new row, the new fact's numbers, the copies'. -/
theorem addOut_ins {w u w5 w6 : World} {lo : Nat} {l res : FL} {r : Int} {xs : List Int} {cs : List Value} {bs : Nat → Nat} {k q : Nat} {v : Value} {e : Ending}
    (hk : k ≤ l.length) (hres : res = l.take k ++ (r, xs) :: l.drop k) (hlo : w.heap.size ≤ lo) (hlou : lo ≤ u.heap.size)
    (hI : Items u lo u.heap.size l cs bs) (huw : Below u.heap.size u w5) (hv : OwnV w5 u.heap.size w5.heap.size v q xs) (hB : Below w.heap.size w w5)
    (ho : InsOut w5 70 2 (l.length + 1) (cs.take (k * 2) ++ [.int .i64 r, v] ++ cs.drop (k * 2)) e w6) : AddOut w res e w6 := by
  obtain ⟨G, he, hrow, hb⟩ := ho
  subst hres
  have hlen := ins_len l (r, xs) k hk
  have h5 : Items w5 lo u.heap.size l cs bs := hI.keep fun q _ h2 _ => huw.block q h2
  have h6 := h5.insert (r := r) hv hlou huw.size k hk
  have h7 : Items w6 lo w5.heap.size _ _ _ := h6.keep fun q _ h2 _ => hb.block q h2
  refine ⟨some ⟨w5.heap.size, 0, none⟩, G, _, _, by rw [hlen]; exact he, ⟨?_, h7.mono hlo hb.size⟩, hB.trans (hb.mono hB.size)⟩
  rw [hlen]
  exact ownsRow_low hrow (by have := hB.size; omega)

set_option maxRecDepth 100000 in
set_option maxHeartbeats 3000000 in
theorem insertOnceF_any (A : Option Addr) (c : Nat) (l : FL) (r : Int) (xs : List Int) (A' : Option Addr) (c' : Nat) (hz : szF l ≤ 1048576) (hl2 : xs.length ≤ 1048576) (w : World) (h : RF w A l) (h' : RI w A' xs) :
    Calls Try.prog 109 #[.slice A l.length c, .agg #[.int .i64 r, .slice A' xs.length c'], .func (.func 110) #[] #[], .func (.func 111) #[] #[]] w (AddOut w (addF l r xs)) := by
  have hl := szF_len hz
  have hl' : (l.length : Int) ≤ 1048576 := by omega
  obtain ⟨W0, hW0⟩ : ∃ W0, W0 = ((w.alloc (.cells #[.int .i64 r, .slice A' xs.length c'] 70)).alloc (.cells #[.func (.func 110) #[] #[]] 103)) := ⟨_, rfl⟩
  have B0 := Lib.hid (show Below w.heap.size w W0 by rw [hW0]; exact step (below_alloc _ _) (below_alloc _ _))
  have Z0 := Lib.hid (show W0.heap.size = w.heap.size + 2 by rw [hW0]; simp)
  have X0 := Lib.hid (show Box W0 w.heap.size #[.int .i64 r, .slice A' xs.length c'] 70 by rw [hW0]; exact (Box.new _ _ _).step (below_alloc _ _))
  have X1 := Lib.hid (show Box W0 (w.heap.size + 1) #[.func (.func 110) #[] #[]] 103 by
    have h1 := Box.new (w.alloc (.cells #[.int .i64 r, .slice A' xs.length c'] 70)) #[.func (.func 110) #[] #[]] 103
    rw [hW0]; simpa using h1)
  have HI := Lib.hid (h.step B0.out)
  have HJ := Lib.hid (h'.step B0.out)
  have EW := Lib.hid hW0
  have XE := Lib.hid fun (k : Nat) (r2 : Int) (ys : List Int) (B : Option Addr) (c2 : Nat) (W : World) (hf : l.getD k (0, []) = (r2, ys)) (hy : ys.length ≤ 1048576) (hI : RI W B ys) (hB : Below W0.heap.size W0 W) =>
    (show Calls Try.prog 122 #[.agg #[.int .i64 r2, .slice B ys.length c2], .pointer (some ⟨w.heap.size + 1, 0, none⟩), .pointer (some ⟨w.heap.size, 0, none⟩)] W fun e w' => e = .returned (.bool (decide (cmpF (l.getD k (0, [])).1 (l.getD k (0, [])).2 r xs = 0))) ∧ Below W.heap.size W w' by
      rw [hf]; exact isEqF_any _ _ r2 ys B c2 r xs A' c' hy hl2 W hI (HJ.out.step hB) (X0.out.step hB) (X1.out.step hB))
  have XG := Lib.hid fun (k : Nat) (r2 : Int) (ys : List Int) (B : Option Addr) (c2 : Nat) (W : World) (hf : l.getD k (0, []) = (r2, ys)) (hy : ys.length ≤ 1048576) (hI : RI W B ys) (hB : Below W0.heap.size W0 W) =>
    (show Calls Try.prog 123 #[.agg #[.int .i64 r2, .slice B ys.length c2], .pointer (some ⟨w.heap.size + 1, 0, none⟩), .pointer (some ⟨w.heap.size, 0, none⟩)] W fun e w' => e = .returned (.bool (decide (cmpF (l.getD k (0, [])).1 (l.getD k (0, [])).2 r xs > 0))) ∧ Below W.heap.size W w' by
      rw [hf]; exact isGrF_any _ _ r2 ys B c2 r xs A' c' hy hl2 W hI (HJ.out.step hB) (X0.out.step hB) (X1.out.step hB))
  have XC := Lib.hid (copyEachF_any A c l hz W0 HI.out)
  clear h h' hW0
  have HB := Lib.hid (hasB_iff l r xs)
  by_cases hh : hasB l r xs = true
  · have HH := Lib.hid hh
    have EF := Lib.hid (addF_yes hh)
    clear hh
    go_enter Try.func109, Try.ntmps109
    go_wp2_with fail
    rw [← EW.out]
    refine XC.out.mono ?_
    rintro e u1 ⟨rfl, hp, d1, z1⟩
    have D1 := Lib.hid d1
    have HP := Lib.hid (OwnC.of_P hp hl)
    clear hp d1 z1
    go_wp2_with fail
    refine (containsFuncF_any A c l _ _ (fun k => decide (cmpF (l.getD k (0, [])).1 (l.getD k (0, [])).2 r xs = 0)) hz _ (HI.out.step D1.out) true ⟨fun _ => HB.out.1 HH.out, fun _ => rfl⟩ (fun k r2 ys B c2 W _ hf hy hI hB => XE.out k r2 ys B c2 W hf hy hI (step D1.out hB))).mono ?_
    rintro e u2 ⟨rfl, d2⟩
    have D2 := Lib.hid d2
    clear d2
    obtain ⟨cs, bs, ho⟩ := HP.out
    have HO := Lib.hid (OwnC.step ho D2.out)
    clear ho
    go_wp2
    go_ret
    rw [EF.out]
    exact ⟨_, _, cs, bs, rfl, OwnC.lo HO.out (by have := Z0.out; omega), step B0.out (step D1.out D2.out)⟩
  · have HH := Lib.hid (show hasB l r xs = false by simpa using hh)
    have EF := Lib.hid (addF_no HH.out)
    clear hh
    go_enter Try.func109, Try.ntmps109
    go_wp2_with fail
    rw [← EW.out]
    refine XC.out.mono ?_
    rintro e u1 ⟨rfl, hp, d1, z1⟩
    have D1 := Lib.hid d1
    have HP := Lib.hid (OwnC.of_P hp hl)
    clear hp d1 z1
    obtain ⟨g, hg⟩ : ∃ g, g = W0.heap.size := ⟨_, rfl⟩
    rw [← hg] at HP ⊢
    have HG := Lib.hid hg
    clear hg
    go_wp2_with fail
    refine (containsFuncF_any A c l _ _ (fun k => decide (cmpF (l.getD k (0, [])).1 (l.getD k (0, [])).2 r xs = 0)) hz _ (HI.out.step D1.out) false ⟨fun h => absurd h (by simp), fun h => by have := HB.out.2 h; rw [HH.out] at this; exact this⟩ (fun k r2 ys B c2 W _ hf hy hI hB => XE.out k r2 ys B c2 W hf hy hI (step D1.out hB))).mono ?_
    rintro e u2 ⟨rfl, d2⟩
    have D2 := Lib.hid (step D1.out d2)
    have D2' := Lib.hid d2
    clear d2
    go_wp2_with fail
    refine (indexFuncF1_any A c l _ _ (fun k => decide (cmpF (l.getD k (0, [])).1 (l.getD k (0, [])).2 r xs > 0)) hz _ (HI.out.step D2.out) (fun k r2 ys B c2 W _ hf hy hI hB => XG.out k r2 ys B c2 W hf hy hI (step D2.out hB))).mono ?_
    rintro e u3 ⟨hx, d3⟩
    have D3 := Lib.hid (step D2.out d3)
    have D3' := Lib.hid (step D2'.out d3)
    clear d3
    have HX := Lib.hid hx
    clear hx
    obtain ⟨cs, bs, ho⟩ := HP.out
    have Y0 := X0.out.step D3.out
    have g0 := Y0.cell 0
    have g1 := Y0.cell 1
    simp only [List.getElem?_toArray, List.getElem?_cons_zero, List.getElem?_cons_succ] at g0 g1
    have HO := Lib.hid ho
    have LG := Lib.hid (show g < u1.heap.size from by
      obtain ⟨_, _, hp⟩ := HO.out.to_P
      exact hp.2.1)
    clear ho Y0
    obtain ⟨k, hk, hat, hres⟩ : ∃ k, k ≤ l.length ∧ (Hid ((k < l.length ∧ e = .returned (.int .i64 k)) ∨ (k = l.length ∧ e = .returned (.int .i64 (-1))))) ∧ Hid (addI l r xs = l.take k ++ (r, xs) :: l.drop k) := by
      rcases HX.out with ⟨k, hk, h1, h2, rfl⟩ | ⟨h1, rfl⟩
      · exact ⟨k, by omega, Lib.hid (.inl ⟨hk, rfl⟩), Lib.hid (addI_gr HH.out (by omega) h1 (fun _ => h2))⟩
      · exact ⟨l.length, Nat.le_refl _, Lib.hid (.inr ⟨rfl, rfl⟩), Lib.hid (addI_gr HH.out (Nat.le_refl _) h1 (fun h => by omega))⟩
    have XK := Lib.hid (copyFact_any r A' c' xs hl2 u3 (HJ.out.step D3.out))
    rcases hat.out with ⟨hlt, he⟩ | ⟨hlt, he⟩
    · subst he
      have hk0 : (0 : Int) ≤ (k : Int) := by omega
      have dk : decide ((k : Int) < 0) = false := by simp
      go_wp2_with fail
      refine XK.out.mono ?_
      rintro e u4 ⟨A2, c2, q, rfl, hv, d4⟩
      have HV := Lib.hid hv
      have D4 := Lib.hid (step D3.out d4)
      have D4' := Lib.hid (step D3'.out d4)
      have D4'' := Lib.hid d4
      clear hv d4 dk g0 g1
      go_wp2_with fail
      refine (insertF_mid g l.length k u4.heap.size cs [.int .i64 r, .slice A2 xs.length c2] _ hlt (by omega) (by have := HO.out.2.1; omega) rfl (by have := LG.out; have := D4'.out.size; simp; omega) (by simp) (fun j v hj => by
        have h1 := ownC_cells HO.out j v hj
        rw [(step D4'.out (below_alloc u4 (.cells #[.int .i64 r, .slice A2 xs.length c2] 70))).cell (p := ⟨g, j, none⟩) LG.out]; exact h1) (fun j v hj => by
        rw [(Box.new u4 #[.int .i64 r, .slice A2 xs.length c2] 70).cell j]; simpa using hj) (items_one' HO.out.2) (by simp [Value.oneCell']) _ rfl).mono ?_
      rintro e u6 ho6
      obtain ⟨G, rfl, ho7⟩ := id ho6
      have FIN := Lib.hid (addOut_ins (u := u1) (lo := g) hk hres.out (by rw [HG.out]; exact B0.out.size) (Nat.le_of_lt LG.out) HO.out.2 (step D4'.out (below_alloc _ _)) (OwnV.step (show OwnV u4 u1.heap.size u4.heap.size _ q xs from HV.out.mono D3'.out.size (Nat.le_refl _)) (below_alloc _ _)) (step B0.out (step D4.out (below_alloc _ _))) ho6)
      clear ho6 ho7
      go_wp2
      go_ret
      rw [EF.out]
      have fin := FIN.out
      rw [al_size] at fin
      exact fin
    · subst he
      have HK := Lib.hid hlt
      have dk : decide ((-1 : Int) < 0) = true := by decide
      go_wp2_with fail
      refine XK.out.mono ?_
      rintro e u4 ⟨A2, c2, q, rfl, hv, d4⟩
      have HV := Lib.hid hv
      have D4 := Lib.hid (step D3.out d4)
      have D4' := Lib.hid (step D3'.out d4)
      have D4'' := Lib.hid d4
      clear hv d4 dk g0 g1 hlt
      go_wp2_with fail
      refine (insertF_end g l.length u4.heap.size cs [.int .i64 r, .slice A2 xs.length c2] _ (by omega) (by have := HO.out.2.1; omega) rfl (by have := LG.out; have := D4'.out.size; simp; omega) (by simp) (fun j v hj => by
        have h1 := ownC_cells HO.out j v hj
        rw [(step D4'.out (below_alloc u4 (.cells #[.int .i64 r, .slice A2 xs.length c2] 70))).cell (p := ⟨g, j, none⟩) LG.out]; exact h1) (fun j v hj => by
        rw [(Box.new u4 #[.int .i64 r, .slice A2 xs.length c2] 70).cell j]; simpa using hj) (by simp [Value.oneCell'])).mono ?_
      rintro e u6 ho6
      obtain ⟨G, rfl, ho7⟩ := id ho6
      have hcl := HO.out.2.1
      have E1 : cs.take (l.length * 2) = cs := List.take_of_length_le (by omega)
      have E2 : cs.drop (l.length * 2) = [] := List.drop_eq_nil_of_le (by omega)
      have ho8 := ho6
      rw [show cs ++ [.int .i64 r, .slice A2 xs.length c2] = cs.take (l.length * 2) ++ [.int .i64 r, .slice A2 xs.length c2] ++ cs.drop (l.length * 2) by rw [E1, E2, List.append_nil]] at ho8
      have hres' := hres.out
      rw [HK.out] at hres'
      have FIN := Lib.hid (addOut_ins (u := u1) (lo := g) (Nat.le_refl _) hres' (by rw [HG.out]; exact B0.out.size) (Nat.le_of_lt LG.out) HO.out.2 (step D4'.out (below_alloc _ _)) (OwnV.step (show OwnV u4 u1.heap.size u4.heap.size _ q xs from HV.out.mono D3'.out.size (Nat.le_refl _)) (below_alloc _ _)) (step B0.out (step D4.out (below_alloc _ _))) ho8)
      clear ho6 ho7 ho8 hcl E1 E2 hres'
      go_wp2
      go_ret
      rw [EF.out]
      have fin := FIN.out
      rw [al_size] at fin
      exact fin
set_option maxRecDepth 100000 in
theorem impl_AddFact_o (A : Option Addr) (c : Nat) (l : FL) (r : Int) (xs : List Int) (A' : Option Addr) (c' : Nat) (hz : szF l ≤ 1048576) (hl2 : xs.length ≤ 1048576) (w : World) (h : RF w A l) (h' : RI w A' xs) :
    Calls Try.prog 88 #[.slice A l.length c, .agg #[.int .i64 r, .slice A' xs.length c']] w (AddOut w (addF l r xs)) := by
  have B0 := Lib.hid (below_alloc w (.cells #[.int .i64 r, .slice A' xs.length c'] 70))
  have XO := Lib.hid (insertOnceF_any A c l r xs A' c' hz hl2 _ (h.step B0.out) (h'.step B0.out))
  clear h h'
  go_enter Try.func88, Try.ntmps88
  go_wp2_with fail
  refine XO.out.mono ?_
  rintro e u ⟨A2, c2, cs, bs, rfl, ho, d⟩
  have HO := Lib.hid ho
  have D := Lib.hid d
  clear ho d
  go_wp2
  go_ret
  exact ⟨A2, c2, cs, bs, rfl, OwnC.lo HO.out B0.out.size, step B0.out D.out⟩
end Go.Proofs.Ytpdmkdhnidgjoaa

namespace Go.Proofs.Ytpdmkdhnidgjoaa
open Go.ChangeShapes Go.WideShapes Go.ChangeAt Go.RowKit Go.Sort
set_option linter.unusedVariables false
set_option linter.unusedSimpArgs false

theorem items_one {w : World} {lo hi : Nat} {fs : FL} {cs : List Value} {bs : Nat → Nat} (h : Items w lo hi fs cs bs) : ∀ x ∈ cs, x.oneCell' = true := fun x hx => by
  obtain ⟨j, hj⟩ := List.getElem?_of_mem hx
  have hlt : j < fs.length * 2 := by have := (List.getElem?_eq_some_iff.1 hj).1; have := h.1; omega
  obtain ⟨e0, v1, e1, hv⟩ := h.2.1 (j / 2) (by omega)
  rcases Nat.mod_two_eq_zero_or_one j with hm | hm
  · rw [show j / 2 * 2 = j by omega, hj] at e0
    injection e0 with e0
    subst e0
    rfl
  · rw [show j / 2 * 2 + 1 = j by omega, hj] at e1
    injection e1 with e1
    subst e1
    obtain ⟨A, c, rfl, _⟩ := hv
    rfl

theorem impl_AddFact (b off c : Nat) (l : FL) (r : Int) (xs : List Int) (A' : Option Addr) (c' : Nat) (hlc : l.length ≤ c) (hc : c ≤ 9223372036854775807) (hz : szF l ≤ 1048576) (hl2 : xs.length ≤ 1048576) (hc2 : xs.length ≤ c') (hm2 : c' ≤ maxLen) (w : World) (h : RF w (some ⟨b, off, none⟩) l) (h' : RI w A' xs) :
    Calls Try.prog 88 #[.slice (some ⟨b, off, none⟩) l.length c, .agg #[.int .i64 r, .slice A' xs.length c']] w (AddOut w (addF l r xs)) := impl_AddFact_o _ c l r xs A' c' hz hl2 w h h'
end Go.Proofs.Ytpdmkdhnidgjoaa
