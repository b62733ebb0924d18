/- Copies of numbers and of facts. Conditions: none beyond each theorem's own. -/
import Derived.Test.YtimlpdcambmcjaaSameL
import Derived.Maps.AppendAt
import Derived.Deep.AppendLies
import Derived.Laws.AppendOwnNone
namespace Go.Proofs.Ytimlpdcambmcjaa
open Go.ChangeShapes Go.WideShapes Go.ChangeAt Go.RowKit Go.Sort
set_option linter.unusedVariables false
set_option linter.unusedSimpArgs false

theorem add_eq (b off j : Nat) : (⟨b, off, none⟩ : Addr).add j = ⟨b, off + j, none⟩ := by unfold Addr.add; split <;> simp_all

theorem own_some {g n c k : Nat} (h : (Value.slice (some ⟨g, 0, none⟩) n c).ownBlock = some k) : g = k := by simpa [Value.ownBlock] using h

/-- append(v, s...) onto a row of the call's own, s a list of numbers that is read, nil or not. -/
theorem wpList_append_nums {P : Program} {w : World} {ops : Array Oper} {rest : List Oper} {o : Oper} {a : Act} {Q : Exit → Act → World → Prop} (hgd : o.guard = none) (s x : Operand) (t : TypeId)
    (ho : o.op = .call { callee := .builtin .append, args := #[s, x], argTypes := #[t, t] })
    (base : Nat) (e : TypeId) (i : TypeInfo) (ht : P.underlying t = some (.slice e)) (hi : P.info? e = some i) (hz : i.zero = some (.int .i64 0)) (hz1 : i.size = 1) (hz2 : i.bytes = 8)
    (v : Value) (n : Nat) (cs : List Value) (hs : a.eval s = v) (hown : w.ownsRow base e 1 v n cs) (lo hi' : Nat) (A : Option Addr) (c : Nat) (xs : List Int) (hx : a.eval x = .slice A xs.length c) (hr : Ints w lo hi' A xs)
    (hn : n + xs.length ≤ 17592186044416) (hbase : base ≤ w.heap.size)
    (h : ∀ v' w', w'.ownsRow base e 1 v' (n + xs.length) (cs ++ xs.map (Value.int .i64)) → w.grownBy w' v.ownBlock → (v'.ownBlock = v.ownBlock ∨ v'.ownBlock = some w.heap.size) → wpList P ops Q rest (a.put o.dst v') w') :
    wpList P ops Q (o :: rest) a w := by
  rcases A with _ | ad
  · have hx0 : xs = [] := by
      rcases xs with _ | ⟨y, ys⟩
      · rfl
      · obtain ⟨b, off, h1, _⟩ := hr (by simp)
        cases h1
    subst hx0
    refine wpList_plain hgd fun K hK => ?_
    have hrun : (Builtin.append_ #[t, t] o.type #[v, .slice none 0 c]).run P w = .ok v w := by
      rcases hown.2 with ⟨rfl, rfl⟩ | ⟨g, cap, cur, rfl, _, _, hnc, _⟩
      · simp [Builtin.append_, run_underlying ht, sizeOf, typeInfo, hi, Builtin.lenOf, Builtin.firstCells]
      · simp [Builtin.append_, run_underlying ht, sizeOf, typeInfo, hi, Builtin.lenOf, Builtin.firstCells, hnc, storeCells]
    unfold Oper.wp execOp
    simp only [List.length_nil] at hx
    simp only [ho, resolve, invoke, builtin, Sem.run_bind, Sem.run_pure, Result.andThen_ok, List.map_toArray, List.map_cons, List.map_nil, hs, hx, hrun]
    exact hK _ _ (h v w (by simpa using hown) (World.grownBy.refl w _) (.inl rfl))
  · refine wpList_append_own_at w hgd s x t ho base e i (.int .i64 0) 1 8 ht hi hz hz1 hz2 rfl (by omega) v n cs hs hown ad xs.length c (xs.map (Value.int .i64)) hx (by simp) (fun j u hj => ?_) (fun u hu => ?_) (by unfold maxLen; omega) (by omega) hbase
      fun v' w' h1 h2 _ h3 => h v' w' h1 h2 h3
    · have hj' : j < xs.length := by have := (List.getElem?_eq_some_iff.1 hj).1; simpa using this
      obtain ⟨b, off, h1, _, _, h4⟩ := hr (by rintro rfl; simp at hj')
      injection h1 with h1
      subst h1
      rw [add_eq, h4 j hj']
      rw [List.getElem?_map, List.getElem?_eq_getElem hj'] at hj
      injection hj with hj
      subst hj
      simp [List.getD_eq_getElem?_getD, hj']
    · simp only [List.mem_map] at hu
      obtain ⟨y, _, rfl⟩ := hu
      rfl

/-- A row of the call's own that holds the numbers xs. -/
theorem ownV_of_row {w : World} {base : Nat} {v : Value} {n : Nat} {xs : List Int} (h : w.ownsRow base 3 1 v n (xs.map (Value.int .i64))) : ∃ q, OwnV w base w.heap.size v q xs := by
  have hl : n = xs.length := by have := h.1; simp at this; omega
  rcases h.2 with ⟨rfl, h0⟩ | ⟨g, cap, cur, rfl, hb, hg, hnc, hcm, hcs, htk⟩
  · have hx : xs = [] := List.eq_nil_of_length_eq_zero (by omega)
    subst hx
    exact ⟨0, none, 0, by simp, Nat.le_refl _, by unfold maxLen; omega, fun h => absurd h (by simp)⟩
  · subst hl
    have hlt : g < w.heap.size := by
      rcases Nat.lt_or_ge g w.heap.size with hlt | hge
      · exact hlt
      · rw [Array.getElem?_eq_none hge] at hg; cases hg
    refine ⟨g, _, _, rfl, hnc, hcm, fun _ => ⟨rfl, hb, hlt, cap, fun i => cur.getD i undef, hnc, ⟨cur, hg, by omega, fun i hi => ?_⟩, fun i hi => ?_⟩⟩
    · simp [Array.getD_eq_getD_getElem?, show i < cur.size by omega]
    · have h1 : (cur.toList.take (xs.length * 1))[i]? = (xs.map (Value.int .i64))[i]? := by rw [htk]
      rw [Nat.mul_one, List.getElem?_take_of_lt hi, List.getElem?_map, List.getElem?_eq_getElem hi] at h1
      simp only [Array.getD_eq_getD_getElem?, List.getD_eq_getElem?_getD]
      rw [Array.getElem?_toList] at h1
      rw [h1, List.getElem?_eq_getElem hi]
      rfl

theorem OwnV.form {w : World} {lo hi q : Nat} {v : Value} {xs : List Int} (h : OwnV w lo hi v q xs) : ∃ A c, v = .slice A xs.length c ∧ xs.length ≤ c ∧ c ≤ maxLen := by
  obtain ⟨A, c, e, h1, h2, _⟩ := h
  exact ⟨A, c, e, h1, h2⟩
def CopyI (w : World) (xs : List Int) (e : Ending) (w' : World) : Prop := ∃ A c q, e = .returned (.slice A xs.length c) ∧ OwnV w' w.heap.size w'.heap.size (.slice A xs.length c) q xs ∧ Below w.heap.size w w'

set_option maxRecDepth 100000 in
set_option maxHeartbeats 400000 in
theorem clone_any (A : Option Addr) (c : Nat) (xs : List Int) (hl : xs.length ≤ 1048576) (w : World) (h : RI w A xs) :
    Calls Try.prog 105 #[.slice A xs.length c] w (CopyI w xs) := by
  obtain ⟨i0, hi, hz0, hz1, hz2⟩ := info_parts int_info
  have hq := fun (W : World) (n c : Nat) => Lib.run_eql_slice_nil (P := Try.prog) W 22 3 A n c 0 0 Try.underlying22
  rcases A with _ | ad
  · have hx0 : xs = [] := by
      rcases xs with _ | ⟨y, ys⟩
      · rfl
      · obtain ⟨b, off, h1, _⟩ := h (by simp)
        cases h1
    subst hx0
    go_enter Try.func105, Try.ntmps105
    go_wp2
    go_ret
    exact ⟨none, 0, 0, rfl, ⟨none, 0, by simp, Nat.le_refl _, by unfold maxLen; omega, fun h => absurd h (by simp)⟩, Below.refl _ _⟩
  · have HI := Lib.hid (h.step (below_alloc w (.cells #[] 3)))
    clear h
    go_enter Try.func105, Try.ntmps105
    go_wp2_with (at_builtin; refine wpList_append_nums rfl _ _ 22 rfl w.heap.size 3 i0 Try.underlying22 hi hz0 hz1 hz2 (.slice (some ⟨w.heap.size, 0, none⟩) 0 0) 0 [] rfl (World.ownsRow_lit _ #[] 0 (Nat.le_refl _) (by unfold maxLen; omega) rfl) _ _ (some ad) c xs rfl HI.out (by omega) (by simp) ?_; intro v' w' hown hg hat
                 have hown' : w'.ownsRow w.heap.size 3 1 v' (0 + xs.length) (xs.map (Value.int .i64)) := by simpa using hown
                 obtain ⟨q, hv⟩ := ownV_of_row hown'
                 obtain ⟨A2, c2, rfl, _, _⟩ := hv.form
                 have HV := Lib.hid hv
                 have HG := Lib.hid hg
                 clear hown hown' hv hg hat)
    go_ret
    exact ⟨_, _, q, rfl, HV.out, (below_alloc w _).grown HG.out (by simp) (fun k hk => Nat.le_of_eq (by simpa [Value.ownBlock] using hk))⟩


def CopyF (w : World) (r : Int) (xs : List Int) (e : Ending) (w' : World) : Prop := ∃ A c q, e = .returned (.agg #[.int .i64 r, .slice A xs.length c]) ∧ OwnV w' w.heap.size w'.heap.size (.slice A xs.length c) q xs ∧ Below w.heap.size w w'

theorem OwnV.step {w w' : World} {lo q : Nat} {v : Value} {xs : List Int} (h : OwnV w lo w.heap.size v q xs) (b : Below w.heap.size w w') : OwnV w' lo w'.heap.size v q xs :=
  (h.keep fun _ h2 _ => b.block _ h2).mono (Nat.le_refl _) b.size

set_option maxRecDepth 100000 in
set_option maxHeartbeats 400000 in
theorem l2One_any (r : Int) (A : Option Addr) (c : Nat) (xs : List Int) (hl : xs.length ≤ 1048576) (w : World) (h : RI w A xs) :
    Calls Try.prog 93 #[.int .i64 r, .slice A xs.length c] w (CopyF w r xs) := by
  obtain ⟨i0, hi, hz0, hz1, hz2⟩ := info_parts int_info
  have B1 := below_alloc w (.cells #[.int .i64 0, .slice none 0 0] 73)
  have HI := Lib.hid ((h.step B1).step (below_alloc _ (.cells #[] 3)))
  have HB1 := Lib.hid B1
  clear h B1
  go_enter Try.func93, Try.ntmps93
  go_wp2_with (at_builtin; refine wpList_append_nums rfl _ _ 22 rfl (w.heap.size + 1) 3 i0 Try.underlying22 hi hz0 hz1 hz2 (.slice (some ⟨w.heap.size + 1, 0, none⟩) 0 0) 0 [] rfl (by have := World.ownsRow_lit (base := w.heap.size + 1) (e := 3) (size := 1) (w.alloc (.cells #[.int .i64 0, .slice none 0 0] 73)) #[] 0 (by simp) (by unfold maxLen; omega) rfl; rw [al_size] at this; exact this) _ _ A c xs rfl HI.out (by omega) (by simp) ?_; intro v' w' hown hg hat
               have hown' : w'.ownsRow (w.heap.size + 1) 3 1 v' (0 + xs.length) (xs.map (Value.int .i64)) := by simpa using hown
               obtain ⟨q, hv⟩ := ownV_of_row hown'
               obtain ⟨A2, c2, rfl, _, _⟩ := hv.form
               have HV := Lib.hid hv
               have HG := Lib.hid hg
               have X4 : Box w' w.heap.size #[.int .i64 0, .slice none 0 0] 73 := (hg.block w.heap.size (by simp <;> omega) (by simp [Value.ownBlock])).trans ((Box.new w _ _).step (below_alloc _ _))
               have g0 := X4.cell 0
               have g1 := X4.cell 1
               have g2 := X4.frozen 0
               have g3 := X4.frozen 1
               simp only [List.getElem?_toArray, List.getElem?_cons_zero, List.getElem?_cons_succ] at g0 g1
               have HX4 := Lib.hid X4
               clear hown hown' hv hg hat X4)
  have hlt := HX4.out.lt
  have HB := Lib.hid (show Below w.heap.size w w' from (step HB1.out (below_alloc _ (.cells #[] 3))).grown HG.out (by (try simp) <;> omega) (fun k hk => by have := own_some hk; omega))
  refine bodyPost_ret (v := .agg #[.int .i64 r, .slice A2 xs.length c2]) (by simp [results, Try.results93, go_sem, g0, g1]) rfl ⟨A2, c2, q, rfl, ?_, ?_⟩
  · rw [size2]
    exact (HV.out.keep fun h1 _ _ => (Below.heap_setCell _ ⟨w.heap.size, 1, none⟩ _ q (by (try simp) <;> omega)).trans (Below.heap_setCell _ ⟨w.heap.size, 0, none⟩ _ q (by (try simp) <;> omega))).mono (by omega) (Nat.le_refl _)
  · exact Below.setCell (Below.setCell HB.out (by simp) _) (by simp) _

set_option maxRecDepth 100000 in
set_option maxHeartbeats 400000 in
theorem copyFact_any (r : Int) (A : Option Addr) (c : Nat) (xs : List Int) (hl : xs.length ≤ 1048576) (w : World) (h : RI w A xs) :
    Calls Try.prog 83 #[.agg #[.int .i64 r, .slice A xs.length c]] w (CopyF w r xs) := by
  have B0 := step (below_alloc w (.cells #[.int .i64 r, .slice A xs.length c] 73)) (below_alloc _ (.cells #[.int .i64 0, .slice none 0 0] 73))
  have HI := Lib.hid (h.step B0)
  have HB0 := Lib.hid B0
  have X0 : Box ((w.alloc (.cells #[.int .i64 r, .slice A xs.length c] 73)).alloc (.cells #[.int .i64 0, .slice none 0 0] 73)) w.heap.size #[.int .i64 r, .slice A xs.length c] 73 := (Box.new _ _ _).step (below_alloc _ _)
  have X1 : Box ((w.alloc (.cells #[.int .i64 r, .slice A xs.length c] 73)).alloc (.cells #[.int .i64 0, .slice none 0 0] 73)) (w.heap.size + 1) #[.int .i64 0, .slice none 0 0] 73 := by simpa using Box.new (w.alloc (.cells #[.int .i64 r, .slice A xs.length c] 73)) #[.int .i64 0, .slice none 0 0] 73
  have HX1 := Lib.hid X1
  have g0 := X0.cell 0
  have g1 := X0.cell 1
  simp only [List.getElem?_toArray, List.getElem?_cons_zero, List.getElem?_cons_succ] at g0 g1
  clear h B0 X0 X1
  go_enter Try.func83, Try.ntmps83
  go_wp2
  go_region_held3 (fun w' => w'.cell? ⟨w.heap.size, 0, none⟩ = some (.int .i64 r) ∧ w'.cell? ⟨w.heap.size, 1, none⟩ = some (.slice A xs.length c))
    (first
      | go_keep
      | (go_split_ands; refine ⟨?_, ?_⟩ <;> (rw [d.cell (by (try simp) <;> omega)]; assumption)))
    (first
      | (go_at_call 105; refine (clone_any A c xs hl _ (by first | exact HI.out | exact HI.out.step (below_drew _))).mono ?_; rintro e u ⟨A2, c2, q, rfl, hv, d⟩
         have b2 := (by first | exact d | exact und d : Below ((w.alloc (.cells #[.int .i64 r, .slice A xs.length c] 73)).alloc (.cells #[.int .i64 0, .slice none 0 0] 73)).heap.size ((w.alloc (.cells #[.int .i64 r, .slice A xs.length c] 73)).alloc (.cells #[.int .i64 0, .slice none 0 0] 73)) u)
         have X4 := HX1.out.step b2
         have q0 := X4.cell 0
         have q1 := X4.cell 1
         have q2 := X4.frozen 0
         have q3 := X4.frozen 1
         simp only [List.getElem?_toArray, List.getElem?_cons_zero, List.getElem?_cons_succ] at q0 q1
         have q4 := X4.lt
         have HV := Lib.hid hv
         have HB2 := Lib.hid (step HB0.out b2)
         clear hv b2 X4))
  go_wp2
  refine bodyPost_ret (v := .agg #[.int .i64 r, .slice A2 xs.length c2]) (by simp [results, Try.results83, go_sem, q0, q1, q2, q3]) rfl ⟨A2, c2, q, rfl, ?_, ?_⟩
  · rw [size2]
    exact (HV.out.keep fun h1 _ _ => (Below.heap_setCell _ ⟨w.heap.size + 1, 1, none⟩ _ q (by (try simp at h1 ⊢); omega)).trans (Below.heap_setCell _ ⟨w.heap.size + 1, 0, none⟩ _ q (by (try simp at h1 ⊢); omega))).mono (by (try simp) <;> omega) (Nat.le_refl _)
  · exact Below.setCell (Below.setCell HB2.out (by (try simp) <;> omega) _) (by (try simp) <;> omega) _

/-- A list of facts of the call's own, at the head of block g; the numbers' blocks lie from lo on. -/
def CopyL (w : World) (fs : FL) (e : Ending) (w' : World) : Prop :=
  e = .returned (.slice (some ⟨w.heap.size, 0, none⟩) fs.length fs.length) ∧ OwnP w' w.heap.size w'.heap.size w.heap.size (fs.length * 2) fs.length fs ∧ Below w.heap.size w w' ∧ w.heap.size < w'.heap.size

end Go.Proofs.Ytimlpdcambmcjaa
