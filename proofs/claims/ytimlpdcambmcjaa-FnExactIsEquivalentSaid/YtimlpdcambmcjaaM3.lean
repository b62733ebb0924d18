/- Whether two facts are the same, and whether a list has a fact. Conditions: none beyond each theorem's own. What the two functions SameFacts answer. Conditions: none beyond each theorem's own. Copies of numbers and of facts. Conditions: none beyond each theorem's own. Lists of facts of the call's own that grow by append. Conditions: none beyond each theorem's own. Where a fact is inserted. Conditions: none beyond each theorem's own. -/
import Derived.Test.YtimlpdcambmcjaaM2
import Derived.Maps.AppendAt
import Derived.Deep.AppendLies
import Derived.Laws.AppendOwnNone

namespace Go.Proofs.Ytimlpdcambmcjaa
open Go.ChangeShapes Go.WideShapes Go.ChangeAt Go.RowKit Go.Sort
set_option linter.unusedVariables false
set_option linter.unusedSimpArgs false

def sameB (r : Int) (xs : List Int) (r' : Int) (ys : List Int) : Bool := decide (r = r') && decide (xs = ys)

def hasB (l : FL) (r : Int) (xs : List Int) : Bool := l.any fun g => sameB g.1 g.2 r xs
theorem hasB_take (l : FL) (r : Int) (xs : List Int) (k : Nat) (hk : k < l.length) : hasB (l.take (k + 1)) r xs = (hasB (l.take k) r xs || sameB (l.getD k (0, [])).1 (l.getD k (0, [])).2 r xs) := by
  unfold hasB
  rw [List.take_succ_eq_append_getElem hk, List.any_append]
  simp [List.getD_eq_getElem?_getD, hk]
theorem hasB_found (l : FL) (r : Int) (xs : List Int) (k : Nat) (hk : k < l.length) (h : sameB (l.getD k (0, [])).1 (l.getD k (0, [])).2 r xs = true) : hasB l r xs = true := by
  unfold hasB
  rw [List.any_eq_true]
  refine ⟨l[k], List.getElem_mem _, ?_⟩
  have : l.getD k (0, []) = l[k] := by simp [List.getD_eq_getElem?_getD, hk]
  rw [this] at h
  exact h
theorem cmp_same (r : Int) (xs : List Int) (r' : Int) (ys : List Int) : (cmpF r xs r' ys == 0) = sameB r xs r' ys := by
  rw [Bool.eq_iff_iff]
  have := cmpF_zero r xs r' ys
  simp [sameB, this]

set_option maxRecDepth 100000 in
set_option maxHeartbeats 1000000 in
theorem spec_HasFact (A : Option Addr) (c : Nat) (l : FL) (r : Int) (xs : List Int) (A' : Option Addr) (c' : Nat) (hz : szF l ≤ 1048576) (hl2 : xs.length ≤ 1048576) (w : World) (h : RF w A l) (h' : RI w A' xs) :
    Calls Try.prog 91 #[.slice A l.length c, .agg #[.int .i64 r, .slice A' xs.length c']] w fun e w' => e = .returned (.bool (hasB l r xs)) ∧ Below w.heap.size w w' := by
  have hl := szF_len hz
  have hl' : (l.length : Int) ≤ 1048576 := by omega
  have B0 := Lib.hid (below_alloc w (.cells #[.int .i64 r, .slice A' xs.length c'] 73))
  have HI := Lib.hid (h.step B0.out)
  have HJ := Lib.hid (h'.step B0.out)
  have X0 := Lib.hid (Box.new w #[.int .i64 r, .slice A' xs.length c'] 73)
  clear h h'
  go_enter Try.func91, Try.ntmps91
  go_wp2
  go_loopw [5] (fun i wr => ∃ k : Nat, k ≤ l.length ∧ i = .int .i64 k ∧ hasB (l.take k) r xs = false ∧ Below (w.alloc (.cells #[.int .i64 r, .slice A' xs.length c'] 73)).heap.size (w.alloc (.cells #[.int .i64 r, .slice A' xs.length c'] 73)) wr) (fun i _ => l.length - (intOf i).toNat)
  case atStart => exact ⟨0, by omega, rfl, rfl, Below.refl _ _⟩
  case round =>
    obtain ⟨k, hk, rfl, ha, hb⟩ := hrel
    have HA := Lib.hid ha
    clear ha
    by_cases hlt : k < l.length
    · generalize hf : l.getD k (0, []) = f
      obtain ⟨r2, xs2⟩ := f
      have HF := Lib.hid hf
      have hxl : xs2.length ≤ 1048576 := by have := szF_elem hz hlt; rw [hf] at this; exact this
      obtain ⟨b, off, B, c2, rfl, n1, e0, e1, hxc, hcm, hI⟩ := (HI.out.step hb).at_ hlt hf
      have Z := X0.out.step hb
      have g0 := Z.cell 0
      have g1 := Z.cell 1
      simp only [List.getElem?_toArray, List.getElem?_cons_zero, List.getElem?_cons_succ] at g0 g1
      have k0 := cell_regrown e0
      have k1 := cell_regrown e1
      have k2 := cell_regrown g0
      have k3 := cell_regrown g1
      have HX := Lib.hid hI
      have HY := Lib.hid (HJ.out.step hb)
      have hk0 : (0 : Int) ≤ (k : Int) := by omega
      have hk1 : (k : Int) < (l.length : Int) := by omega
      have CS := Lib.hid (cmp_same r2 xs2 r xs)
      generalize hq : cmpF r2 xs2 r xs = q at CS
      have HQ := Lib.hid hq
      clear hI hf Z hq e0 e1 g0 g1
      have X1 := Lib.hid fun (W : World) (hW : Below wr.heap.size wr W) => (show Calls Try.prog 92 #[.agg #[.int .i64 r2, .slice B xs2.length c2], .agg #[.int .i64 r, .slice A' xs.length c']] W fun e w' => e = .returned (.int .i64 q) ∧ Below W.heap.size W w' by have := spec_CompareFacts r2 r xs2 xs B A' c2 c' (by omega) (by omega) W (HX.out.step hW) (HY.out.step hW); rw [HQ.out] at this; exact this)
      by_cases hs : q = 0
      · have d0 : (q == 0) = true := by simpa using hs
        have HS := Lib.hid (show sameB r2 xs2 r xs = true by rw [← CS.out]; exact d0)
        clear hs
        go_wp2
        refine wp_region_quiet_below (by kernel_rfl) (by kernel_rfl) ?_
        repeat (go_big_quiet_step (first | (go_at_call 92; with_reducible exact Calls.regrown_of (X1.out _ (below_regrown _ _ _)))))
        refine wpQuiet_nil ?_
        intro u hw'
        have hb2 := step hb (show Below wr.heap.size wr u by obtain ⟨⟨dq, osq⟩, rfl⟩ := hw'; exact below_regrown _ _ _)
        clear hw' k0 k1 k2 k3
        go_wp2
        go_ret
        exact ⟨ret_bool (hasB_found l r xs k hlt (by rw [HF.out]; exact HS.out)).symm, step B0.out hb2⟩
      · have d0 : (q == 0) = false := by simpa using hs
        have HS := Lib.hid (show sameB r2 xs2 r xs = false by rw [← CS.out]; exact d0)
        clear hs
        go_wp2
        refine wp_region_quiet_below (by kernel_rfl) (by kernel_rfl) ?_
        repeat (go_big_quiet_step (first | (go_at_call 92; with_reducible exact Calls.regrown_of (X1.out _ (below_regrown _ _ _)))))
        refine wpQuiet_nil ?_
        intro u hw'
        have hb2 := step hb (show Below wr.heap.size wr u by obtain ⟨⟨dq, osq⟩, rfl⟩ := hw'; exact below_regrown _ _ _)
        clear hw' k0 k1 k2 k3
        go_wp2
        go_roundw
        case rel => exact ⟨k + 1, by omega, by go_num, by rw [hasB_take _ _ _ _ hlt, HA.out, HF.out, HS.out]; rfl, hb2⟩
        case measure => simp [intOf]; omega
    · obtain rfl : k = l.length := by omega
      go_wp2
      go_ret
      exact ⟨ret_bool (by have := HA.out; rw [take_all] at this; exact this.symm), step B0.out hb⟩
end Go.Proofs.Ytimlpdcambmcjaa

namespace Go.Proofs.Ytimlpdcambmcjaa
open Go.ChangeShapes Go.WideShapes Go.ChangeAt Go.RowKit Go.Sort
set_option linter.unusedVariables false
set_option linter.unusedSimpArgs false

def sameL (us bs : FL) : Bool := decide (us = bs)
theorem fl_take (us bs : FL) (hl : us.length = bs.length) (k : Nat) (hk : k < us.length) (h : us.take k = bs.take k) {r r' : Int} {xs ys : List Int} (ha : us.getD k (0, []) = (r, xs)) (hb : bs.getD k (0, []) = (r', ys)) (hs : sameB r xs r' ys = true) : us.take (k + 1) = bs.take (k + 1) := by
  rw [List.take_succ_eq_append_getElem hk, List.take_succ_eq_append_getElem (by omega), h]
  have h1 : us[k] = us.getD k (0, []) := by simp [List.getD_eq_getElem?_getD, hk]
  have h2 : bs[k]'(by omega) = bs.getD k (0, []) := by simp [List.getD_eq_getElem?_getD, show k < bs.length by omega]
  rw [h1, h2, ha, hb]
  simp [sameB] at hs
  rw [hs.1, hs.2]
theorem fl_differ (us bs : FL) (k : Nat) {r r' : Int} {xs ys : List Int} (ha : us.getD k (0, []) = (r, xs)) (hb : bs.getD k (0, []) = (r', ys)) (hs : sameB r xs r' ys = false) : sameL us bs = false := by
  unfold sameL
  rw [decide_eq_false]
  rintro rfl
  rw [ha] at hb
  injection hb with h1 h2
  subst h1 h2
  simp [sameB] at hs

end Go.Proofs.Ytimlpdcambmcjaa

namespace Go.Proofs.Ytimlpdcambmcjaa
open Go.ChangeShapes Go.WideShapes Go.ChangeAt Go.RowKit Go.Sort
set_option linter.unusedVariables false
set_option linter.unusedSimpArgs false

theorem add_eq (b off j : Nat) : (⟨b, off, none⟩ : Addr).add j = ⟨b, off + j, none⟩ := by unfold Addr.add; split <;> simp_all

theorem own_some {g n c k : Nat} (h : (Value.slice (some ⟨g, 0, none⟩) n c).ownBlock = some k) : g = k := by simpa [Value.ownBlock] using h

/-- append(v, s...) onto a row of the call's own, s a list of numbers that is read, nil or not. -/
theorem wpList_append_nums {P : Program} {w : World} {ops : Array Oper} {rest : List Oper} {o : Oper} {a : Act} {Q : Exit → Act → World → Prop} (hgd : o.guard = none) (s x : Operand) (t : TypeId)
    (ho : o.op = .call { callee := .builtin .append, args := #[s, x], argTypes := #[t, t] })
    (base : Nat) (e : TypeId) (i : TypeInfo) (ht : P.underlying t = some (.slice e)) (hi : P.info? e = some i) (hz : i.zero = some (.int .i64 0)) (hz1 : i.size = 1) (hz2 : i.bytes = 8)
    (v : Value) (n : Nat) (cs : List Value) (hs : a.eval s = v) (hown : w.ownsRow base e 1 v n cs) (lo hi' : Nat) (A : Option Addr) (c : Nat) (xs : List Int) (hx : a.eval x = .slice A xs.length c) (hr : Ints w lo hi' A xs)
    (hn : n + xs.length ≤ 17592186044416) (hbase : base ≤ w.heap.size)
    (h : ∀ v' w', w'.ownsRow base e 1 v' (n + xs.length) (cs ++ xs.map (Value.int .i64)) → w.grownBy w' v.ownBlock → (v'.ownBlock = v.ownBlock ∨ v'.ownBlock = some w.heap.size) → wpList P ops Q rest (a.put o.dst v') w') :
    wpList P ops Q (o :: rest) a w := by
  rcases A with _ | ad
  · have hx0 : xs = [] := by
      rcases xs with _ | ⟨y, ys⟩
      · rfl
      · obtain ⟨b, off, h1, _⟩ := hr (by simp)
        cases h1
    subst hx0
    refine wpList_plain hgd fun K hK => ?_
    have hrun : (Builtin.append_ #[t, t] o.type #[v, .slice none 0 c]).run P w = .ok v w := by
      rcases hown.2 with ⟨rfl, rfl⟩ | ⟨g, cap, cur, rfl, _, _, hnc, _⟩
      · simp [Builtin.append_, run_underlying ht, sizeOf, typeInfo, hi, Builtin.lenOf, Builtin.firstCells]
      · simp [Builtin.append_, run_underlying ht, sizeOf, typeInfo, hi, Builtin.lenOf, Builtin.firstCells, hnc, storeCells]
    unfold Oper.wp execOp
    simp only [List.length_nil] at hx
    simp only [ho, resolve, invoke, builtin, Sem.run_bind, Sem.run_pure, Result.andThen_ok, List.map_toArray, List.map_cons, List.map_nil, hs, hx, hrun]
    exact hK _ _ (h v w (by simpa using hown) (World.grownBy.refl w _) (.inl rfl))
  · refine wpList_append_own_at w hgd s x t ho base e i (.int .i64 0) 1 8 ht hi hz hz1 hz2 rfl (by omega) v n cs hs hown ad xs.length c (xs.map (Value.int .i64)) hx (by simp) (fun j u hj => ?_) (fun u hu => ?_) (by unfold maxLen; omega) (by omega) hbase
      fun v' w' h1 h2 _ h3 => h v' w' h1 h2 h3
    · have hj' : j < xs.length := by have := (List.getElem?_eq_some_iff.1 hj).1; simpa using this
      obtain ⟨b, off, h1, _, _, h4⟩ := hr (by rintro rfl; simp at hj')
      injection h1 with h1
      subst h1
      rw [add_eq, h4 j hj']
      rw [List.getElem?_map, List.getElem?_eq_getElem hj'] at hj
      injection hj with hj
      subst hj
      simp [List.getD_eq_getElem?_getD, hj']
    · simp only [List.mem_map] at hu
      obtain ⟨y, _, rfl⟩ := hu
      rfl

/-- A row of the call's own that holds the numbers xs. -/
theorem ownV_of_row {w : World} {base : Nat} {v : Value} {n : Nat} {xs : List Int} (h : w.ownsRow base 3 1 v n (xs.map (Value.int .i64))) : ∃ q, OwnV w base w.heap.size v q xs := by
  have hl : n = xs.length := by have := h.1; simp at this; omega
  rcases h.2 with ⟨rfl, h0⟩ | ⟨g, cap, cur, rfl, hb, hg, hnc, hcm, hcs, htk⟩
  · have hx : xs = [] := List.eq_nil_of_length_eq_zero (by omega)
    subst hx
    exact ⟨0, none, 0, by simp, Nat.le_refl _, by unfold maxLen; omega, fun h => absurd h (by simp)⟩
  · subst hl
    have hlt : g < w.heap.size := by
      rcases Nat.lt_or_ge g w.heap.size with hlt | hge
      · exact hlt
      · rw [Array.getElem?_eq_none hge] at hg; cases hg
    refine ⟨g, _, _, rfl, hnc, hcm, fun _ => ⟨rfl, hb, hlt, cap, fun i => cur.getD i undef, hnc, ⟨cur, hg, by omega, fun i hi => ?_⟩, fun i hi => ?_⟩⟩
    · simp [Array.getD_eq_getD_getElem?, show i < cur.size by omega]
    · have h1 : (cur.toList.take (xs.length * 1))[i]? = (xs.map (Value.int .i64))[i]? := by rw [htk]
      rw [Nat.mul_one, List.getElem?_take_of_lt hi, List.getElem?_map, List.getElem?_eq_getElem hi] at h1
      simp only [Array.getD_eq_getD_getElem?, List.getD_eq_getElem?_getD]
      rw [Array.getElem?_toList] at h1
      rw [h1, List.getElem?_eq_getElem hi]
      rfl

theorem OwnV.form {w : World} {lo hi q : Nat} {v : Value} {xs : List Int} (h : OwnV w lo hi v q xs) : ∃ A c, v = .slice A xs.length c ∧ xs.length ≤ c ∧ c ≤ maxLen := by
  obtain ⟨A, c, e, h1, h2, _⟩ := h
  exact ⟨A, c, e, h1, h2⟩
def CopyI (w : World) (xs : List Int) (e : Ending) (w' : World) : Prop := ∃ A c q, e = .returned (.slice A xs.length c) ∧ OwnV w' w.heap.size w'.heap.size (.slice A xs.length c) q xs ∧ Below w.heap.size w w'

set_option maxRecDepth 100000 in
set_option maxHeartbeats 400000 in
theorem clone_any (A : Option Addr) (c : Nat) (xs : List Int) (hl : xs.length ≤ 1048576) (w : World) (h : RI w A xs) :
    Calls Try.prog 105 #[.slice A xs.length c] w (CopyI w xs) := by
  obtain ⟨i0, hi, hz0, hz1, hz2⟩ := info_parts int_info
  have hq := fun (W : World) (n c : Nat) => Lib.run_eql_slice_nil (P := Try.prog) W 22 3 A n c 0 0 Try.underlying22
  rcases A with _ | ad
  · have hx0 : xs = [] := by
      rcases xs with _ | ⟨y, ys⟩
      · rfl
      · obtain ⟨b, off, h1, _⟩ := h (by simp)
        cases h1
    subst hx0
    go_enter Try.func105, Try.ntmps105
    go_wp2
    go_ret
    exact ⟨none, 0, 0, rfl, ⟨none, 0, by simp, Nat.le_refl _, by unfold maxLen; omega, fun h => absurd h (by simp)⟩, Below.refl _ _⟩
  · have HI := Lib.hid (h.step (below_alloc w (.cells #[] 3)))
    clear h
    go_enter Try.func105, Try.ntmps105
    go_wp2_with (at_builtin; refine wpList_append_nums rfl _ _ 22 rfl w.heap.size 3 i0 Try.underlying22 hi hz0 hz1 hz2 (.slice (some ⟨w.heap.size, 0, none⟩) 0 0) 0 [] rfl (World.ownsRow_lit _ #[] 0 (Nat.le_refl _) (by unfold maxLen; omega) rfl) _ _ (some ad) c xs rfl HI.out (by omega) (by simp) ?_; intro v' w' hown hg hat
                 have hown' : w'.ownsRow w.heap.size 3 1 v' (0 + xs.length) (xs.map (Value.int .i64)) := by simpa using hown
                 obtain ⟨q, hv⟩ := ownV_of_row hown'
                 obtain ⟨A2, c2, rfl, _, _⟩ := hv.form
                 have HV := Lib.hid hv
                 have HG := Lib.hid hg
                 clear hown hown' hv hg hat)
    go_ret
    exact ⟨_, _, q, rfl, HV.out, (below_alloc w _).grown HG.out (by simp) (fun k hk => Nat.le_of_eq (by simpa [Value.ownBlock] using hk))⟩


def CopyF (w : World) (r : Int) (xs : List Int) (e : Ending) (w' : World) : Prop := ∃ A c q, e = .returned (.agg #[.int .i64 r, .slice A xs.length c]) ∧ OwnV w' w.heap.size w'.heap.size (.slice A xs.length c) q xs ∧ Below w.heap.size w w'

theorem OwnV.step {w w' : World} {lo q : Nat} {v : Value} {xs : List Int} (h : OwnV w lo w.heap.size v q xs) (b : Below w.heap.size w w') : OwnV w' lo w'.heap.size v q xs :=
  (h.keep fun _ h2 _ => b.block _ h2).mono (Nat.le_refl _) b.size

set_option maxRecDepth 100000 in
set_option maxHeartbeats 400000 in
theorem l2One_any (r : Int) (A : Option Addr) (c : Nat) (xs : List Int) (hl : xs.length ≤ 1048576) (w : World) (h : RI w A xs) :
    Calls Try.prog 93 #[.int .i64 r, .slice A xs.length c] w (CopyF w r xs) := by
  obtain ⟨i0, hi, hz0, hz1, hz2⟩ := info_parts int_info
  have B1 := below_alloc w (.cells #[.int .i64 0, .slice none 0 0] 73)
  have HI := Lib.hid ((h.step B1).step (below_alloc _ (.cells #[] 3)))
  have HB1 := Lib.hid B1
  clear h B1
  go_enter Try.func93, Try.ntmps93
  go_wp2_with (at_builtin; refine wpList_append_nums rfl _ _ 22 rfl (w.heap.size + 1) 3 i0 Try.underlying22 hi hz0 hz1 hz2 (.slice (some ⟨w.heap.size + 1, 0, none⟩) 0 0) 0 [] rfl (by have := World.ownsRow_lit (base := w.heap.size + 1) (e := 3) (size := 1) (w.alloc (.cells #[.int .i64 0, .slice none 0 0] 73)) #[] 0 (by simp) (by unfold maxLen; omega) rfl; rw [al_size] at this; exact this) _ _ A c xs rfl HI.out (by omega) (by simp) ?_; intro v' w' hown hg hat
               have hown' : w'.ownsRow (w.heap.size + 1) 3 1 v' (0 + xs.length) (xs.map (Value.int .i64)) := by simpa using hown
               obtain ⟨q, hv⟩ := ownV_of_row hown'
               obtain ⟨A2, c2, rfl, _, _⟩ := hv.form
               have HV := Lib.hid hv
               have HG := Lib.hid hg
               have X4 : Box w' w.heap.size #[.int .i64 0, .slice none 0 0] 73 := (hg.block w.heap.size (by simp <;> omega) (by simp [Value.ownBlock])).trans ((Box.new w _ _).step (below_alloc _ _))
               have g0 := X4.cell 0
               have g1 := X4.cell 1
               have g2 := X4.frozen 0
               have g3 := X4.frozen 1
               simp only [List.getElem?_toArray, List.getElem?_cons_zero, List.getElem?_cons_succ] at g0 g1
               have HX4 := Lib.hid X4
               clear hown hown' hv hg hat X4)
  have hlt := HX4.out.lt
  have HB := Lib.hid (show Below w.heap.size w w' from (step HB1.out (below_alloc _ (.cells #[] 3))).grown HG.out (by (try simp) <;> omega) (fun k hk => by have := own_some hk; omega))
  refine bodyPost_ret (v := .agg #[.int .i64 r, .slice A2 xs.length c2]) (by simp [results, Try.results93, go_sem, g0, g1]) rfl ⟨A2, c2, q, rfl, ?_, ?_⟩
  · rw [size2]
    exact (HV.out.keep fun h1 _ _ => (Below.heap_setCell _ ⟨w.heap.size, 1, none⟩ _ q (by (try simp) <;> omega)).trans (Below.heap_setCell _ ⟨w.heap.size, 0, none⟩ _ q (by (try simp) <;> omega))).mono (by omega) (Nat.le_refl _)
  · exact Below.setCell (Below.setCell HB.out (by simp) _) (by simp) _

set_option maxRecDepth 100000 in
set_option maxHeartbeats 400000 in
theorem copyFact_any (r : Int) (A : Option Addr) (c : Nat) (xs : List Int) (hl : xs.length ≤ 1048576) (w : World) (h : RI w A xs) :
    Calls Try.prog 83 #[.agg #[.int .i64 r, .slice A xs.length c]] w (CopyF w r xs) := by
  have B0 := step (below_alloc w (.cells #[.int .i64 r, .slice A xs.length c] 73)) (below_alloc _ (.cells #[.int .i64 0, .slice none 0 0] 73))
  have HI := Lib.hid (h.step B0)
  have HB0 := Lib.hid B0
  have X0 : Box ((w.alloc (.cells #[.int .i64 r, .slice A xs.length c] 73)).alloc (.cells #[.int .i64 0, .slice none 0 0] 73)) w.heap.size #[.int .i64 r, .slice A xs.length c] 73 := (Box.new _ _ _).step (below_alloc _ _)
  have X1 : Box ((w.alloc (.cells #[.int .i64 r, .slice A xs.length c] 73)).alloc (.cells #[.int .i64 0, .slice none 0 0] 73)) (w.heap.size + 1) #[.int .i64 0, .slice none 0 0] 73 := by simpa using Box.new (w.alloc (.cells #[.int .i64 r, .slice A xs.length c] 73)) #[.int .i64 0, .slice none 0 0] 73
  have HX1 := Lib.hid X1
  have g0 := X0.cell 0
  have g1 := X0.cell 1
  simp only [List.getElem?_toArray, List.getElem?_cons_zero, List.getElem?_cons_succ] at g0 g1
  clear h B0 X0 X1
  go_enter Try.func83, Try.ntmps83
  go_wp2
  go_region_held3 (fun w' => w'.cell? ⟨w.heap.size, 0, none⟩ = some (.int .i64 r) ∧ w'.cell? ⟨w.heap.size, 1, none⟩ = some (.slice A xs.length c))
    (first
      | go_keep
      | (go_split_ands; refine ⟨?_, ?_⟩ <;> (rw [d.cell (by (try simp) <;> omega)]; assumption)))
    (first
      | (go_at_call 105; refine (clone_any A c xs hl _ (by first | exact HI.out | exact HI.out.step (below_drew _))).mono ?_; rintro e u ⟨A2, c2, q, rfl, hv, d⟩
         have b2 := (by first | exact d | exact und d : Below ((w.alloc (.cells #[.int .i64 r, .slice A xs.length c] 73)).alloc (.cells #[.int .i64 0, .slice none 0 0] 73)).heap.size ((w.alloc (.cells #[.int .i64 r, .slice A xs.length c] 73)).alloc (.cells #[.int .i64 0, .slice none 0 0] 73)) u)
         have X4 := HX1.out.step b2
         have q0 := X4.cell 0
         have q1 := X4.cell 1
         have q2 := X4.frozen 0
         have q3 := X4.frozen 1
         simp only [List.getElem?_toArray, List.getElem?_cons_zero, List.getElem?_cons_succ] at q0 q1
         have q4 := X4.lt
         have HV := Lib.hid hv
         have HB2 := Lib.hid (step HB0.out b2)
         clear hv b2 X4))
  go_wp2
  refine bodyPost_ret (v := .agg #[.int .i64 r, .slice A2 xs.length c2]) (by simp [results, Try.results83, go_sem, q0, q1, q2, q3]) rfl ⟨A2, c2, q, rfl, ?_, ?_⟩
  · rw [size2]
    exact (HV.out.keep fun h1 _ _ => (Below.heap_setCell _ ⟨w.heap.size + 1, 1, none⟩ _ q (by (try simp at h1 ⊢); omega)).trans (Below.heap_setCell _ ⟨w.heap.size + 1, 0, none⟩ _ q (by (try simp at h1 ⊢); omega))).mono (by (try simp) <;> omega) (Nat.le_refl _)
  · exact Below.setCell (Below.setCell HB2.out (by (try simp) <;> omega) _) (by (try simp) <;> omega) _

/-- A list of facts of the call's own, at the head of block g; the numbers' blocks lie from lo on. -/
def CopyL (w : World) (fs : FL) (e : Ending) (w' : World) : Prop :=
  e = .returned (.slice (some ⟨w.heap.size, 0, none⟩) fs.length fs.length) ∧ OwnP w' w.heap.size w'.heap.size w.heap.size (fs.length * 2) fs.length fs ∧ Below w.heap.size w w' ∧ w.heap.size < w'.heap.size

end Go.Proofs.Ytimlpdcambmcjaa

namespace Go.Proofs.Ytimlpdcambmcjaa
open Go.ChangeShapes Go.WideShapes Go.ChangeAt Go.RowKit Go.Sort
set_option linter.unusedVariables false
set_option linter.unusedSimpArgs false

/-- The cells cs are the facts fs, their numbers each in a block of its own from lo to below hi. -/
def Items (w : World) (lo hi : Nat) (fs : FL) (cs : List Value) (bs : Nat → Nat) : Prop :=
  cs.length = fs.length * 2 ∧ (∀ k, k < fs.length → cs[k * 2]? = some (.int .i64 (fs.getD k (0, [])).1) ∧ ∃ v1, cs[k * 2 + 1]? = some v1 ∧ OwnV w lo hi v1 (bs k) (fs.getD k (0, [])).2) ∧
    (∀ i j, i < j → j < fs.length → 0 < (fs.getD i (0, [])).2.length → 0 < (fs.getD j (0, [])).2.length → bs i ≠ bs j)
/-- The slice value v owns a row that is the facts fs. -/
def OwnC (w : World) (lo hi : Nat) (v : Value) (fs : FL) (cs : List Value) (bs : Nat → Nat) : Prop := w.ownsRow lo 73 2 v fs.length cs ∧ Items w lo hi fs cs bs

theorem OwnV.keep_len {w w' : World} {lo hi q : Nat} {v : Value} {xs : List Int} (h : OwnV w lo hi v q xs) (hk : 0 < xs.length → lo ≤ q → q < hi → w'.heap[q]? = w.heap[q]?) : OwnV w' lo hi v q xs := by
  obtain ⟨A, c, e, hc, hm, hx⟩ := h
  exact ⟨A, c, e, hc, hm, fun hp => by
    obtain ⟨a, b, d, m, F, h1, h2, h3⟩ := hx hp
    exact ⟨a, b, d, m, F, h1, World.rowIs.of_block h2 (hk hp b d), h3⟩⟩
theorem Items.keep {w w' : World} {lo hi : Nat} {fs : FL} {cs : List Value} {bs : Nat → Nat} (h : Items w lo hi fs cs bs) (hk : ∀ q, lo ≤ q → q < hi → (∃ c, w.heap[q]? = some (.cells c 3 (0, 0))) → w'.heap[q]? = w.heap[q]?) : Items w' lo hi fs cs bs := by
  obtain ⟨h1, h2, h3⟩ := h
  refine ⟨h1, fun k hkl => ?_, h3⟩
  obtain ⟨e0, v1, e1, hv⟩ := h2 k hkl
  exact ⟨e0, v1, e1, hv.keep (hk _)⟩
theorem Items.mono {w : World} {lo hi lo' hi' : Nat} {fs : FL} {cs : List Value} {bs : Nat → Nat} (h : Items w lo hi fs cs bs) (a : lo' ≤ lo) (b : hi ≤ hi') : Items w lo' hi' fs cs bs := by
  obtain ⟨h1, h2, h3⟩ := h
  refine ⟨h1, fun k hkl => ?_, h3⟩
  obtain ⟨e0, v1, e1, hv⟩ := h2 k hkl
  exact ⟨e0, v1, e1, hv.mono a b⟩
theorem OwnV.rng {w : World} {lo hi q : Nat} {v : Value} {xs : List Int} (h : OwnV w lo hi v q xs) (hp : 0 < xs.length) : lo ≤ q ∧ q < hi := by
  obtain ⟨_, _, _, _, _, hx⟩ := h
  obtain ⟨_, a, b, _⟩ := hx hp
  exact ⟨a, b⟩
theorem Items.rng {w : World} {lo hi : Nat} {fs : FL} {cs : List Value} {bs : Nat → Nat} (h : Items w lo hi fs cs bs) {k : Nat} (hk : k < fs.length) (hp : 0 < (fs.getD k (0, [])).2.length) : lo ≤ bs k ∧ bs k < hi := by
  obtain ⟨_, v1, _, hv⟩ := h.2.1 k hk
  exact hv.rng hp
theorem getD_left (fs gs : FL) {k : Nat} (hk : k < fs.length) : (fs ++ gs).getD k (0, []) = fs.getD k (0, []) := by
  simp [List.getD_eq_getElem?_getD, List.getElem?_append_left hk]
theorem getD_right (fs gs : FL) {k : Nat} (hk : fs.length ≤ k) : (fs ++ gs).getD k (0, []) = gs.getD (k - fs.length) (0, []) := by
  simp [List.getD_eq_getElem?_getD, List.getElem?_append_right hk]
theorem Items.append {w : World} {lo mid hi : Nat} {fs gs : FL} {cs ds : List Value} {bs bs' : Nat → Nat} (h : Items w lo mid fs cs bs) (h' : Items w mid hi gs ds bs') (a : lo ≤ mid) (b : mid ≤ hi) :
    Items w lo hi (fs ++ gs) (cs ++ ds) (fun k => if k < fs.length then bs k else bs' (k - fs.length)) := by
  have H := h
  have H' := h'
  obtain ⟨h1, h2, h3⟩ := h
  obtain ⟨g1, g2, g3⟩ := h'
  refine ⟨by simp only [List.length_append, h1, g1]; omega, fun k hk => ?_, fun i j hij hj hi0 hj0 => ?_⟩
  · by_cases hkl : k < fs.length
    · simp only [if_pos hkl]
      rw [getD_left fs gs hkl, List.getElem?_append_left (by omega), List.getElem?_append_left (by omega)]
      obtain ⟨e0, v1, e1, hv⟩ := h2 k hkl
      exact ⟨e0, v1, e1, hv.mono (Nat.le_refl _) b⟩
    · rw [List.length_append] at hk
      simp only [if_neg hkl]
      rw [getD_right fs gs (by omega), List.getElem?_append_right (by omega), List.getElem?_append_right (by omega), h1,
        show k * 2 - fs.length * 2 = (k - fs.length) * 2 by omega, show k * 2 + 1 - fs.length * 2 = (k - fs.length) * 2 + 1 by omega]
      obtain ⟨e0, v1, e1, hv⟩ := g2 (k - fs.length) (by omega)
      exact ⟨e0, v1, e1, hv.mono a (Nat.le_refl _)⟩
  · rw [List.length_append] at hj
    by_cases hjl : j < fs.length
    · have hil : i < fs.length := by omega
      rw [getD_left fs gs hjl] at hj0
      rw [getD_left fs gs hil] at hi0
      simp only [if_pos hjl, if_pos hil]
      exact h3 i j hij hjl hi0 hj0
    · rw [getD_right fs gs (by omega)] at hj0
      by_cases hil : i < fs.length
      · rw [getD_left fs gs hil] at hi0
        simp only [if_neg hjl, if_pos hil]
        have r1 := H.rng hil hi0
        have r2 := H'.rng (show j - fs.length < gs.length by omega) hj0
        omega
      · rw [getD_right fs gs (by omega)] at hi0
        simp only [if_neg hjl, if_neg hil]
        exact g3 (i - fs.length) (j - fs.length) (by omega) (by omega) hi0 hj0
theorem Items.one {w : World} {lo hi q : Nat} {r : Int} {xs : List Int} {v : Value} (h : OwnV w lo hi v q xs) : Items w lo hi [(r, xs)] [.int .i64 r, v] (fun _ => q) := by
  refine ⟨rfl, fun k hk => ?_, fun i j hij hj => ?_⟩
  · have : k = 0 := by simpa using hk
    subst this
    exact ⟨rfl, v, rfl, h⟩
  · simp at hj; omega
theorem Items.nil (w : World) (lo hi : Nat) : Items w lo hi [] [] (fun _ => 0) := ⟨rfl, fun k hk => by simp at hk, fun i j _ hj => by simp at hj⟩

theorem own_none {w w' : World} (b : Below w.heap.size w w') : w.grownBy w' none := ⟨b.os, b.tape, b.output, b.size, fun k hk _ => b.block k hk⟩
theorem OwnC.step {w w' : World} {lo : Nat} {v : Value} {fs : FL} {cs : List Value} {bs : Nat → Nat} (h : OwnC w lo w.heap.size v fs cs bs) (b : Below w.heap.size w w') : OwnC w' lo w'.heap.size v fs cs bs :=
  ⟨h.1.kept (own_none b) (by rcases hv : v.ownBlock with _ | g <;> simp), (h.2.keep fun q _ h2 _ => b.block q h2).mono (Nat.le_refl _) b.size⟩
theorem OwnC.cur {w w' : World} {lo hi : Nat} {v : Value} {fs : FL} {cs : List Value} {bs : Nat → Nat} (h : OwnC w lo hi v fs cs bs) (hhi : hi ≤ w.heap.size) (b : Below w.heap.size w w') : OwnC w' lo hi v fs cs bs :=
  ⟨h.1.kept (own_none b) (by rcases hv : v.ownBlock with _ | g <;> simp), h.2.keep fun q _ h2 _ => b.block q (by omega)⟩
theorem OwnC.lo {w : World} {lo lo' hi : Nat} {v : Value} {fs : FL} {cs : List Value} {bs : Nat → Nat} (h : OwnC w lo hi v fs cs bs) (a : lo' ≤ lo) : OwnC w lo' hi v fs cs bs := by
  obtain ⟨⟨h1, h2⟩, h3⟩ := h
  refine ⟨⟨h1, ?_⟩, h3.mono a (Nat.le_refl _)⟩
  rcases h2 with h2 | ⟨g, cap, cur, hv, hb, hr⟩
  · exact .inl h2
  · exact .inr ⟨g, cap, cur, hv, Nat.le_trans a hb, hr⟩

/-- Behind an append: the row is longer, all numbers are where they were. -/
theorem own_append {w w' : World} {lo mid : Nat} {v v' : Value} {fs gs : FL} {cs ds : List Value} {bs bs' : Nat → Nat} (h : OwnC w lo mid v fs cs bs) (h' : Items w mid w.heap.size gs ds bs') (a : lo ≤ mid) (b : mid ≤ w.heap.size)
    (hown : w'.ownsRow lo 73 2 v' (fs.length + gs.length) (cs ++ ds)) (hg : w.grownBy w' v.ownBlock) : ∃ bs2, OwnC w' lo w'.heap.size v' (fs ++ gs) (cs ++ ds) bs2 := by
  have hI := h.2.append h' a b
  refine ⟨_, by rw [List.length_append]; exact hown, (hI.keep fun q _ hq ⟨c, hc⟩ => hg.block q hq fun e => ?_).mono (Nat.le_refl _) hg.size⟩
  rcases h.1.2 with ⟨rfl, _⟩ | ⟨g, cap, cur, rfl, _, hh, _⟩
  · simp [Value.ownBlock] at e
  · have : g = q := own_some e.symm
    subst this
    rw [hc] at hh
    injection hh with hh
    injection hh with _ ht
    exact absurd ht (by decide)

/-- A row that was made in full. -/
theorem OwnC.of_P {w : World} {lo g : Nat} {fs : FL} (h : OwnP w lo w.heap.size g (fs.length * 2) fs.length fs) (hl : fs.length ≤ 1048576) : ∃ cs bs, OwnC w lo w.heap.size (.slice (some ⟨g, 0, none⟩) fs.length fs.length) fs cs bs := by
  obtain ⟨h1, h2, F, bs, hr, he, hd⟩ := h
  obtain ⟨c, hc, hcs, hF⟩ := hr
  refine ⟨c.toList, bs, ⟨by simpa using hcs, .inr ⟨g, fs.length, c, rfl, h1, hc, Nat.le_refl _, by unfold maxLen; omega, hcs, ?_⟩⟩, by simpa using hcs, fun k hk => ?_, hd⟩
  · rw [List.take_of_length_le (by simp [hcs])]
  · obtain ⟨e0, e1⟩ := he k hk
    refine ⟨?_, F (k * 2 + 1), ?_, e1⟩
    · rw [Array.getElem?_toList, hF _ (by omega), e0]
    · rw [Array.getElem?_toList, hF _ (by omega)]
theorem OwnC.to_P {w : World} {lo g n cap : Nat} {fs : FL} {cs : List Value} {bs : Nat → Nat} (h : OwnC w lo w.heap.size (.slice (some ⟨g, 0, none⟩) n cap) fs cs bs) : n = fs.length ∧ n ≤ cap ∧ OwnP w lo w.heap.size g (cap * 2) fs.length fs := by
  obtain ⟨⟨hl, h⟩, h1, h2, h3⟩ := h
  rcases h with ⟨h, _⟩ | ⟨g', cap', cur, hv, hb, hg, hnc, hcm, hcs, htk⟩
  · cases h
  · injection hv with e1 e2 e3
    injection e1 with e1
    injection e1 with e1
    subst e1 e3
    have hlt : g < w.heap.size := by
      rcases Nat.lt_or_ge g w.heap.size with hlt | hge
      · exact hlt
      · rw [Array.getElem?_eq_none hge] at hg; cases hg
    have at_ : ∀ i u, cs[i]? = some u → cur.getD i undef = u := fun i u hu => by
      have hi : i < fs.length * 2 := by have := (List.getElem?_eq_some_iff.1 hu).1; omega
      rw [← htk, List.getElem?_take_of_lt hi, Array.getElem?_toList] at hu
      simp [Array.getD_eq_getD_getElem?, hu]
    refine ⟨e2, by omega, hb, hlt, fun i => cur.getD i undef, bs, ⟨cur, hg, hcs, fun i hi => by simp [Array.getD_eq_getD_getElem?, show i < cur.size by omega]⟩, fun j hj => ?_, h3⟩
    obtain ⟨e0, v1, e1, hv⟩ := h2 j hj
    exact ⟨at_ _ _ e0, by show OwnV w lo w.heap.size (cur.getD (j * 2 + 1) undef) (bs j) _; rw [at_ _ _ e1]; exact hv⟩
theorem OwnC.form {w : World} {lo hi : Nat} {v : Value} {fs : FL} {cs : List Value} {bs : Nat → Nat} (h : OwnC w lo hi v fs cs bs) : ∃ A c, v = .slice A fs.length c := by
  rcases h.1.2 with ⟨rfl, h0⟩ | ⟨g, cap, _, rfl, _⟩
  · exact ⟨none, 0, by rw [h0]⟩
  · exact ⟨_, _, rfl⟩
theorem OwnC.rf {w : World} {lo n c : Nat} {A : Option Addr} {fs : FL} {cs : List Value} {bs : Nat → Nat} (h : OwnC w lo w.heap.size (.slice A n c) fs cs bs) : RF w A fs := by
  rcases A with _ | ⟨g, off, spot⟩
  · intro hne
    rcases h.1.2 with ⟨_, h0⟩ | ⟨g, cap, _, hv, _⟩
    · exact absurd (List.eq_nil_of_length_eq_zero h0) hne
    · cases hv
  · have hg : off = 0 ∧ spot = none := by
      rcases h.1.2 with ⟨hv, _⟩ | ⟨g', cap, _, hv, _⟩
      · cases hv
      · injection hv with e1
        injection e1 with e1
        injection e1 with _ e2 e3
        exact ⟨e2, e3⟩
    obtain ⟨rfl, rfl⟩ := hg
    obtain ⟨e, hc, hp⟩ := h.to_P
    exact hp.rf (by omega)
end Go.Proofs.Ytimlpdcambmcjaa

namespace Go.Proofs.Ytimlpdcambmcjaa
open Go.ChangeShapes Go.WideShapes Go.ChangeAt Go.RowKit Go.Sort
set_option linter.unusedVariables false
set_option linter.unusedSimpArgs false

theorem cmpL_anti : ∀ xs ys : List Int, cmpL xs ys = -cmpL ys xs
  | [], [] => rfl
  | [], _ :: _ => rfl
  | _ :: _, [] => rfl
  | x :: xs, y :: ys => by
    have ih := cmpL_anti xs ys
    simp only [cmpL]
    by_cases h1 : x < y
    · rw [if_pos h1, if_neg (by omega), if_pos h1]
    · by_cases h2 : y < x
      · rw [if_neg h1, if_pos h2, if_pos h2]; rfl
      · rw [if_neg h1, if_neg h2, if_neg h2, if_neg h1, ih]
theorem cmpF_anti (r : Int) (xs : List Int) (r' : Int) (ys : List Int) : cmpF r xs r' ys = -cmpF r' ys r xs := by
  unfold cmpF
  by_cases h1 : r < r'
  · rw [if_pos h1, if_neg (by omega), if_pos h1]
  · by_cases h2 : r' < r
    · rw [if_neg h1, if_pos h2, if_pos h2]; rfl
    · rw [if_neg h1, if_neg h2, if_neg h2, if_neg h1, cmpL_anti]

/-- The fact before the first one that is not less. -/
def addI : FL → Int → List Int → FL
  | [], r, xs => [(r, xs)]
  | g :: t, r, xs => if cmpF g.1 g.2 r xs < 0 then g :: addI t r xs else (r, xs) :: g :: t
def addF (l : FL) (r : Int) (xs : List Int) : FL := if hasB l r xs = true then l else addI l r xs
theorem addF_yes {l : FL} {r : Int} {xs : List Int} (h : hasB l r xs = true) : addF l r xs = l := if_pos h
theorem addF_no {l : FL} {r : Int} {xs : List Int} (h : hasB l r xs = false) : addF l r xs = addI l r xs := if_neg (by simp [h])
def ltAt (l : FL) (r : Int) (xs : List Int) (k : Nat) : Prop := cmpF (l.getD k (0, [])).1 (l.getD k (0, [])).2 r xs < 0
theorem addI_at : ∀ (l : FL) (r : Int) (xs : List Int) (k : Nat), k ≤ l.length → (∀ j, j < k → ltAt l r xs j) → (k < l.length → ¬ ltAt l r xs k) → addI l r xs = l.take k ++ (r, xs) :: l.drop k
  | [], r, xs, k, hk, _, _ => by
    have : k = 0 := by simpa using hk
    subst this
    rfl
  | g :: t, r, xs, 0, _, _, h2 => by
    have h := h2 (by simp)
    simp only [ltAt, List.getD_cons_zero] at h
    rw [addI, if_neg h]
    rfl
  | g :: t, r, xs, k + 1, hk, h1, h2 => by
    have h := h1 0 (by omega)
    simp only [ltAt, List.getD_cons_zero] at h
    have ih := addI_at t r xs k (by simpa using hk) (fun j hj => by have := h1 (j + 1) (by omega); simpa [ltAt] using this) (fun hlt => by have := h2 (by simpa using hlt); simpa [ltAt] using this)
    rw [addI, if_pos h, ih]
    rfl
theorem hasB_none {l : FL} {r : Int} {xs : List Int} (h : hasB l r xs = false) {k : Nat} (hk : k < l.length) : cmpF (l.getD k (0, [])).1 (l.getD k (0, [])).2 r xs ≠ 0 := by
  intro e
  have hs := cmp_same (l.getD k (0, [])).1 (l.getD k (0, [])).2 r xs
  rw [e] at hs
  have := hasB_found l r xs k hk (by rw [← hs]; rfl)
  rw [h] at this
  cases this
/-- The model's test is the other way round. -/
theorem ltAt_anti {l : FL} {r : Int} {xs : List Int} (h : hasB l r xs = false) {k : Nat} (hk : k < l.length) : ltAt l r xs k ↔ ¬ cmpF r xs (l.getD k (0, [])).1 (l.getD k (0, [])).2 < 0 := by
  have h0 := hasB_none h hk
  have h1 := cmpF_anti r xs (l.getD k (0, [])).1 (l.getD k (0, [])).2
  unfold ltAt
  omega
theorem sumN_append (l l' : FL) : sumN (l ++ l') = sumN l + sumN l' := by simp [sumN]
theorem szF_take (l : FL) (k : Nat) : szF (l.take k) ≤ szF l := by
  have := sumN_le l k
  have h2 : (l.take k).length ≤ l.length := by rw [List.length_take]; omega
  unfold szF
  omega
theorem szF_drop (l : FL) (k : Nat) : szF (l.drop k) ≤ szF l := by
  have : sumN l = sumN (l.take k) + sumN (l.drop k) := by rw [← sumN_append, List.take_append_drop]
  have h2 : (l.drop k).length ≤ l.length := by rw [List.length_drop]; omega
  unfold szF
  omega
theorem szF_addI : ∀ (l : FL) (r : Int) (xs : List Int), szF (addI l r xs) = szF l + 1 + xs.length
  | [], r, xs => by simp [addI, szF, sumN] <;> omega
  | g :: t, r, xs => by
    have ih := szF_addI t r xs
    rw [addI]
    split
    · simp [szF, sumN] at ih ⊢; omega
    · simp [szF, sumN]; omega
theorem szF_addF (l : FL) (r : Int) (xs : List Int) : szF (addF l r xs) ≤ szF l + 1 + xs.length := by
  unfold addF
  split
  · omega
  · rw [szF_addI]; omega

theorem RF.take {w : World} {A : Option Addr} {fs : FL} (h : RF w A fs) (k : Nat) : RF w A (fs.take k) := fun hne => by
  obtain ⟨b, off, h1, h2, h3, h4⟩ := h (by rintro rfl; simp at hne)
  refine ⟨b, off, h1, h2, h3, fun j hj => ?_⟩
  rw [List.length_take] at hj
  have e : (fs.take k).getD j (0, []) = fs.getD j (0, []) := by simp [List.getD_eq_getElem?_getD, List.getElem?_take_of_lt (show j < k by omega)]
  rw [e]
  exact h4 j (by omega)
theorem RF.drop {w : World} {b off : Nat} {fs : FL} (h : RF w (some ⟨b, off, none⟩) fs) (k : Nat) : RF w (some ⟨b, off + k * 2, none⟩) (fs.drop k) := fun hne => by
  obtain ⟨b', off', h1, h2, h3, h4⟩ := h (by rintro rfl; simp at hne)
  injection h1 with h1
  injection h1 with e1 e2
  subst e1 e2
  refine ⟨b, off + k * 2, rfl, h2, h3, fun j hj => ?_⟩
  rw [List.length_drop] at hj
  have e : (fs.drop k).getD j (0, []) = fs.getD (k + j) (0, []) := by simp [List.getD_eq_getElem?_getD]
  rw [e, show off + k * 2 + j * 2 = off + (k + j) * 2 by omega]
  exact h4 (k + j) (by omega)
theorem RF.empty (w : World) (A : Option Addr) : RF w A [] := fun h => absurd rfl h

def CopyN (w : World) (fs : FL) (n : Nat) (e : Ending) (w' : World) : Prop :=
  e = .returned (.slice (some ⟨w.heap.size, 0, none⟩) n n) ∧ (∃ cs bs, OwnC w' w.heap.size w'.heap.size (.slice (some ⟨w.heap.size, 0, none⟩) n n) fs cs bs) ∧ Below w.heap.size w w'
/-- A list of facts of the call's own is returned. -/
def AddOut (w : World) (res : FL) (e : Ending) (w' : World) : Prop :=
  ∃ A c cs bs, e = .returned (.slice A res.length c) ∧ OwnC w' w.heap.size w'.heap.size (.slice A res.length c) res cs bs ∧ Below w.heap.size w w'
end Go.Proofs.Ytimlpdcambmcjaa
