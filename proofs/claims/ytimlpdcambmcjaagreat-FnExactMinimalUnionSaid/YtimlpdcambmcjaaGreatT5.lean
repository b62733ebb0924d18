/- slices.Grow from nothing, slices.Concat and slices.Clone of queries; copies of lists of queries. Conditions: none beyond each theorem's own. What the program's dropEach answers on lists of queries. Conditions: none beyond each theorem's own. -/
import Derived.Test.YtimlpdcambmcjaaGreatS24
import Derived.Test.YtimlpdcambmcjaaGreatTCpR
import Derived.Maps.AppendAt
import Derived.Lib.AppendZerosOnto
import Derived.Test.YtimlpdcambmcjaaGreatT1

namespace Go.Proofs.YtimlpdcambmcjaaGreat
open Go.ChangeShapes Go.WideShapes Go.ChangeAt Go.RowKit Go.Sort
set_option linter.unusedVariables false
set_option linter.unusedSimpArgs false

/-- An append whose run is known. -/
theorem wpList_append_knownU {P : Program} {w : World} {ops : Array Oper} {rest : List Oper} {o : Oper} {a : Act} {Q : Exit → Act → World → Prop} (hgd : o.guard = none) (s x : Operand) (t tn : TypeId)
    (ho : o.op = .call { callee := .builtin .append, args := #[s, x], argTypes := #[t, tn] }) (v u r : Value) (w' : World) (hs : a.eval s = v) (hx : a.eval x = u)
    (hr : ∀ ty, (Builtin.append_ #[t, tn] ty #[v, u]).run P w = .ok r w') (h : wpList P ops Q rest (a.put o.dst r) w') : wpList P ops Q (o :: rest) a w := by
  refine wpList_plain hgd fun K hK => ?_
  unfold Oper.wp execOp
  simp only [ho, resolve, invoke, builtin, Sem.run_bind, Sem.run_pure, Result.andThen_ok, List.map_toArray, List.map_cons, List.map_nil, hs, hx, hr]
  exact hK _ _ h

set_option maxHeartbeats 1000000 in
set_option maxRecDepth 100000 in
theorem growQ_one (n : Nat) (h1 : 0 < n) (h2 : n ≤ 1048576) (w : World) :
    Calls Tryz.prog 148 #[.slice none 0 0, .int .i64 (n : Int)] w fun e w' => ∃ v, e = .returned v ∧ w'.ownsRow w.heap.size 29 2 v 0 [] ∧ Below w.heap.size w w' := by
  obtain ⟨i0, hi0, hz0, hza, hzb⟩ := info_parts query_info
  obtain ⟨G, hG⟩ : ∃ G, G = grownCap w n 0 29 := ⟨_, rfl⟩
  obtain ⟨ROW, hROW⟩ : ∃ ROW : Array Value, ROW = Builtin.zeroCells ((.agg #[.slice none 0 0, .slice none 0 0] : Value).cells) n ++ Builtin.zeroCells ((.agg #[.slice none 0 0, .slice none 0 0] : Value).cells) (G - n) := ⟨_, rfl⟩
  have hrz : ∀ ty, (Builtin.append_ #[44, 3] ty #[.slice none 0 0, .int .i64 (n : Int)]).run Tryz.prog w =
      .ok (.slice (some ⟨w.heap.size, 0, none⟩) n G) (w.drew.alloc (.cells ROW 29)) := fun ty => by
    have hold : (Builtin.firstCells i0.size 0 (.slice none 0 0)).run Tryz.prog w.drew = .ok (#[] : Array Value) w.drew := by simp [Builtin.firstCells]
    have h := Lib.run_append_grow_zeros w 44 3 ty 29 i0 _ .i64 .i64 Tryz.underlying44 Tryz.underlying3 hi0 hz0 none 0 0 [] hold n (by omega) (by omega) (by omega) (by omega) (by rw [hzb]; omega) (by rw [hzb]; exact growslice_fits (by omega) (by omega))
    rw [show 0 + n = n by omega, ← hG] at h
    rw [hROW]
    simpa using h
  have hGn : n ≤ G := by rw [hG]; exact grownCap_ge w _ _ _
  have hGm : G ≤ maxLen := by rw [hG]; exact grownCap_le_maxLen w n 0 29 (by unfold maxLen; omega)
  have hRs : ROW.size = G * 2 := by
    rw [hROW]
    simp [Builtin.zeroCells, Value.cells]
    omega
  have HR := Lib.hid hRs
  have p0 : (0 : Int) < (n : Int) := by omega
  have p1 : (n : Int) ≤ 1048576 := by omega
  have p2 : decide ((n : Int) < 0) = false := by simp
  have p3 : decide ((n : Int) > 0) = true := by simp; omega
  have gm : G ≤ 9223372036854775807 := by unfold maxLen at hGm; omega
  clear hG hROW hRs
  go_enter Tryz.func148, Tryz.ntmps148
  go_wp2_with (at_builtin; refine wpList_append_knownU rfl _ _ 44 3 rfl _ _ _ _ rfl rfl hrz ?_)
  go_ret
  exact ⟨_, rfl, ⟨rfl, .inr ⟨_, _, _, rfl, Nat.le_refl _, heap_alloc_new w.drew _, Nat.zero_le _, hGm, HR.out, by simp⟩⟩, step (below_alloc w _) (below_drew _)⟩
theorem growQ_zero (w : World) :
    Calls Tryz.prog 148 #[.slice none 0 0, .int .i64 0] w fun e w' => ∃ v, e = .returned v ∧ w'.ownsRow w.heap.size 29 2 v 0 [] ∧ Below w.heap.size w w' := by
  go_enter Tryz.func148, Tryz.ntmps148
  go_wp2
  go_ret
  exact ⟨_, rfl, ⟨rfl, .inl ⟨rfl, rfl⟩⟩, Below.refl _ _⟩
theorem growQ_any (n1 n2 : Nat) (h2 : n1 + n2 ≤ 1048576) (w : World) :
    Calls Tryz.prog 148 #[.slice none 0 0, .int .i64 ((n1 : Int) + (n2 : Int))] w fun e w' => ∃ v, e = .returned v ∧ w'.ownsRow w.heap.size 29 2 v 0 [] ∧ Below w.heap.size w w' := by
  rcases Nat.eq_zero_or_pos (n1 + n2) with h0 | h0
  · rw [show (n1 : Int) + (n2 : Int) = 0 by omega]
    exact growQ_zero w
  · rw [show (n1 : Int) + (n2 : Int) = ((n1 + n2 : Nat) : Int) by omega]
    exact growQ_one (n1 + n2) h0 h2 w

set_option maxHeartbeats 1000000 in
set_option maxRecDepth 100000 in
/-- slices.Concat of two parts of one row of queries. -/
theorem concatQ_two (B b o1 o2 n1 n2 c1 c2 : Nat) (xs ys : List Value) (hx : xs.length = n1 * 2) (hy : ys.length = n2 * 2) (h2 : n1 + n2 ≤ 1048576)
    (ox : ∀ u ∈ xs, u.oneCell' = true) (oy : ∀ u ∈ ys, u.oneCell' = true) (w : World) (nb : b < w.heap.size)
    (C0 : w.cell? ⟨B, 0, none⟩ = some (.slice (some ⟨b, o1, none⟩) n1 c1)) (C1 : w.cell? ⟨B, 1, none⟩ = some (.slice (some ⟨b, o2, none⟩) n2 c2))
    (X : ∀ j u, xs[j]? = some u → w.cell? ⟨b, o1 + j, none⟩ = some u) (Y : ∀ j u, ys[j]? = some u → w.cell? ⟨b, o2 + j, none⟩ = some u) :
    Calls Tryz.prog 115 #[.slice (some ⟨B, 0, none⟩) 2 2] w fun e w' => ∃ v, e = .returned v ∧ w'.ownsRow w.heap.size 29 2 v (n1 + n2) (xs ++ ys) ∧ Below w.heap.size w w' := by
  obtain ⟨i0, hi, hz0, hz1, hz2⟩ := info_parts query_info
  have nB : B < w.heap.size := World.block_lt_of_cell? w _ C0
  have hb1 : (0 : Int) ≤ (n1 : Int) := by omega
  have hb2 : (0 : Int) ≤ (n2 : Int) := by omega
  have hb3 : (n1 : Int) + (n2 : Int) ≤ 1048576 := by omega
  have hb4 : decide ((n1 : Int) + (n2 : Int) < 0) = false := by simp; omega
  have hb5 : decide ((n1 : Int) < 0) = false := by simp
  have XX := Lib.hid X
  have YY := Lib.hid Y
  have OX := Lib.hid ox
  have OY := Lib.hid oy
  have HX := Lib.hid hx
  have HY := Lib.hid hy
  clear X Y ox oy hx hy
  go_enter Tryz.func115, Tryz.ntmps115
  go_wp2
  refine wp_loop_rounds 3 ?_
  rw [rounds_succ]
  go_wp2
  rw [rounds_succ]
  go_wp2
  rw [rounds_succ]
  go_wp2_with fail
  refine (growQ_any n1 n2 h2 w).mono ?_
  rintro e w1 ⟨v1, rfl, ho1, b1⟩
  have HO1 := Lib.hid ho1
  have HB1 := Lib.hid b1
  have D0 := (b1.cell (p := ⟨B, 0, none⟩) nB).trans C0
  have D1 := (b1.cell (p := ⟨B, 1, none⟩) nB).trans C1
  have nB1 := b1.size
  clear C0 C1 ho1 b1
  go_wp2
  refine wp_loop_rounds 3 ?_
  rw [rounds_succ]
  go_wp2_with (at_builtin; refine wpList_append_own_at (P := Tryz.prog) _ rfl _ _ 44 rfl w.heap.size 29 i0 _ 2 48 Tryz.underlying44 hi hz0 hz1 hz2 rfl (by omega) v1 0 [] rfl HO1.out ⟨b, o1, none⟩ n1 c1 xs rfl HX.out (fun j u hj => by rw [add_eq]; exact (HB1.out.cell (p := ⟨b, o1 + j, none⟩) nb).trans (XX.out j u hj)) OX.out (by unfold maxLen; omega) (by omega) HB1.out.size ?_; intro v2 w2 ho2 hg2 _ hv2)
  have d2 : Below w.heap.size w1 w2 := (Below.refl _ _).grown hg2 HB1.out.size (fun q hq => (HO1.out.lt q hq).1)
  have HO2 := Lib.hid ho2
  have HB2 := Lib.hid (HB1.out.trans d2)
  have e1 := (d2.cell (p := ⟨B, 1, none⟩) nB).trans D1
  clear ho2 hg2 hv2 d2 D0 D1
  rw [rounds_succ]
  go_wp2_with (at_builtin; refine wpList_append_own_at (P := Tryz.prog) _ rfl _ _ 44 rfl w.heap.size 29 i0 _ 2 48 Tryz.underlying44 hi hz0 hz1 hz2 rfl (by omega) v2 (0 + n1) ([] ++ xs) rfl HO2.out ⟨b, o2, none⟩ n2 c2 ys rfl HY.out (fun j u hj => by rw [add_eq]; exact (HB2.out.cell (p := ⟨b, o2 + j, none⟩) nb).trans (YY.out j u hj)) OY.out (by unfold maxLen; omega) (by omega) HB2.out.size ?_; intro v3 w3 ho3 hg3 _ hv3)
  have d3 : Below w.heap.size w2 w3 := (Below.refl _ _).grown hg3 HB2.out.size (fun q hq => (HO2.out.lt q hq).1)
  have HO3 := Lib.hid ho3
  have HB3 := Lib.hid (HB2.out.trans d3)
  clear ho3 hg3 hv3 d3
  rw [rounds_succ]
  go_wp2
  go_ret
  refine ⟨_, rfl, ?_, HB3.out⟩
  have := HO3.out
  rw [Nat.zero_add, List.nil_append] at this
  exact this

set_option maxHeartbeats 1000000 in
set_option maxRecDepth 100000 in
theorem cloneQ_any (b o n c : Nat) (xs : List Value) (hx : xs.length = n * 2) (h2 : n ≤ 1048576) (ox : ∀ u ∈ xs, u.oneCell' = true) (w : World) (nb : b < w.heap.size) (X : ∀ j u, xs[j]? = some u → w.cell? ⟨b, o + j, none⟩ = some u) :
    Calls Tryz.prog 114 #[.slice (some ⟨b, o, none⟩) n c] w fun e w' => ∃ v, e = .returned v ∧ w'.ownsRow w.heap.size 29 2 v n xs ∧ Below w.heap.size w w' := by
  obtain ⟨i0, hi, hz0, hz1, hz2⟩ := info_parts query_info
  have hq := fun (W : World) (n c : Nat) => Lib.run_eql_slice_nil (P := Tryz.prog) W 44 29 (some ⟨b, o, none⟩) n c 0 0 Tryz.underlying44
  have HX := Lib.hid hx
  have OX := Lib.hid ox
  have XX := Lib.hid X
  clear X ox hx
  go_enter Tryz.func114, Tryz.ntmps114
  go_wp2_with (at_builtin; refine wpList_append_own_at (P := Tryz.prog) _ rfl _ _ 44 rfl w.heap.size 29 i0 _ 2 48 Tryz.underlying44 hi hz0 hz1 hz2 rfl (by omega) (.slice (some ⟨w.heap.size, 0, none⟩) 0 0) 0 [] rfl (World.ownsRow_lit _ #[] 0 (Nat.le_refl _) (by unfold maxLen; omega) rfl) ⟨b, o, none⟩ n c xs rfl HX.out (fun j u hj => by rw [add_eq]; exact ((below_alloc w _).cell (p := ⟨b, o + j, none⟩) nb).trans (XX.out j u hj)) OX.out (by unfold maxLen; omega) (by omega) (by simp) ?_
               intro v2 w2 ho2 hg2 _ _
               have HO2 := Lib.hid ho2
               have HG2 := Lib.hid hg2
               clear ho2 hg2)
  go_ret
  refine ⟨_, rfl, ?_, (below_alloc w _).grown HG2.out (by simp) (fun k hk => Nat.le_of_eq (by simpa [Value.ownBlock] using hk))⟩
  have := HO2.out
  rw [Nat.zero_add, List.nil_append] at this
  exact this

set_option maxHeartbeats 1000000 in
set_option maxRecDepth 100000 in
theorem copyEachQ_any (A : Option Addr) (c : Nat) (us : UL) (hz : szU us ≤ 1048576) (w : World) (h : RU w A us) :
    Calls Tryz.prog 69 #[.slice A us.length c, .func (.func 42) #[] #[]] w fun e w' => e = .returned (.slice (some ⟨w.heap.size, 0, none⟩) us.length us.length) ∧ OwnU w' w.heap.size w'.heap.size w.heap.size (us.length * 2) us.length us ∧ Below w.heap.size w w' ∧ w.heap.size < w'.heap.size := by
  have hl := szU_len hz
  obtain ⟨C, hCs, hmk⟩ := makeQueries us.length hl
  have HI := Lib.hid h
  have HS := Lib.hid hCs
  clear h hCs
  have hl' : (us.length : Int) ≤ 1048576 := by omega
  go_enter Tryz.func69, Tryz.ntmps69
  go_wp2
  go_loopw [6, 7, 13] (fun _ _ i wr => ∃ k : Nat, k ≤ us.length ∧ i = .int .i64 k ∧ OwnU wr w.heap.size wr.heap.size w.heap.size (us.length * 2) k us ∧ Below w.heap.size w wr) (fun _ _ i _ => us.length - (intOf i).toNat)
  case atStart =>
    refine ⟨0, by omega, rfl, ⟨Nat.le_refl _, by simp, Nat.le_refl _, fun i => C.getD i undef, fun _ => 0, fun _ => 0, ⟨C, by rw [heap_alloc_new], HS.out, fun i hi => by simp only [Array.getD_eq_getD_getElem?, Array.getElem?_eq_getElem (show i < C.size by rw [HS.out]; exact hi)]; rfl⟩, fun j hj => by omega, fun i j hi _ _ => by omega⟩, below_alloc _ _⟩
  case round =>
    obtain ⟨k, hk, rfl, ho, hb⟩ := hrel
    have HO := Lib.hid ho
    clear ho
    by_cases hlt : k < us.length
    · generalize hf : us.getD k noU = f
      obtain ⟨hs, l⟩ := f
      have HF := Lib.hid hf
      obtain ⟨_, hhl, hll⟩ := szU_elem hz hlt hf
      have hll2 := szF_len hll
      obtain ⟨b, off, H, ch, B, c2, rfl, _, e0, e1, hxc, hcm, _, _, hI, hJ⟩ := (HI.out.step hb).at_ hlt hf
      clear hf
      unfold maxLen at hcm
      have XQ := Lib.hid (copyQuery_anyU H B ch c2 hs l hhl hll _ (hI.step (below_alloc wr (.cells #[.slice H hs.length ch, .slice B l.length c2] 29))) (hJ.step (below_alloc wr (.cells #[.slice H hs.length ch, .slice B l.length c2] 29))))
      clear hI hJ
      go_wp2_with fail
      refine XQ.out.mono ?_
      rintro e u hq
      obtain ⟨A3, c3, q3, mid, rfl, o1, o2, o3, o4, d0⟩ := hq
      have d := below_new d0
      have hg : w.heap.size < wr.heap.size := HO.out.2.1
      obtain ⟨F, p, q, hrow, _, _⟩ := HO.out.2.2.2
      have hrow2 : u.rowIs w.heap.size 29 (us.length * 2) F := World.rowIs.of_block hrow (d.block _ hg)
      have q0 := hrow2.cell (show k * 2 < us.length * 2 by omega)
      have q1 := hrow2.cell (show k * 2 + 1 < us.length * 2 by omega)
      have q2 := hrow2.frozen (k * 2)
      have q3 := hrow2.frozen (k * 2 + 1)
      have hp : wr.heap.size ≤ (wr.alloc (.cells #[.slice H hs.length ch, .slice B l.length c2] 29)).heap.size := by rw [al_size]; omega
      have HR := Lib.hid (show QO u (wr.alloc (.cells #[.slice H hs.length ch, .slice B l.length c2] 29)).heap.size mid u.heap.size A3 (some ⟨mid, 0, none⟩) c3 l.length hs l from ⟨⟨_, o1⟩, .inr ⟨mid, l.length * 2, rfl, o2, Nat.le_refl _⟩, by omega, by omega, Nat.le_refl _⟩)
      have HP := Lib.hid hp
      clear hrow hrow2 o1 o2 hp d0
      go_wp2
      go_roundw
      case rel =>
        refine ⟨k + 1, by omega, by go_num, ownU_step HO.out (by omega) HF.out d HR.out HP.out (Nat.le_refl _) (by unfold maxLen; omega), ?_⟩
        exact ((hb.trans (d.mono hb.size)).setCell (Nat.le_refl _) _).setCell (Nat.le_refl _) _
      case measure => simp [intOf]; omega
    · obtain rfl : k = us.length := by omega
      go_wp2
      go_ret
      exact ⟨rfl, HO.out, hb, HO.out.2.1⟩
end Go.Proofs.YtimlpdcambmcjaaGreat

namespace Go.Proofs.YtimlpdcambmcjaaGreat
open Go.ChangeShapes Go.WideShapes Go.ChangeAt Go.RowKit Go.Sort
set_option linter.unusedVariables false
set_option linter.unusedSimpArgs false

/-- The cells of the rows with these numbers. -/
def cellsI (F : Nat → Value) (ix : List Nat) : List Value := ix.flatMap fun j => [F (j * 2), F (j * 2 + 1)]
theorem cellsI_cons (F : Nat → Value) (a : Nat) (r : List Nat) : cellsI F (a :: r) = F (a * 2) :: F (a * 2 + 1) :: cellsI F r := rfl
theorem cellsI_append (F : Nat → Value) (a b : List Nat) : cellsI F (a ++ b) = cellsI F a ++ cellsI F b := List.flatMap_append
theorem cellsI_len (F : Nat → Value) : ∀ ix : List Nat, (cellsI F ix).length = ix.length * 2
  | [] => rfl
  | a :: r => by
    rw [cellsI_cons, List.length_cons, List.length_cons, cellsI_len F r, List.length_cons]
    omega
theorem cellsI_at (F : Nat → Value) : ∀ (ix : List Nat) (k : Nat), k < ix.length → (cellsI F ix)[k * 2]? = some (F (ix.getD k 0 * 2)) ∧ (cellsI F ix)[k * 2 + 1]? = some (F (ix.getD k 0 * 2 + 1))
  | [], k, h => by simp at h
  | a :: r, 0, _ => by simp [cellsI_cons]
  | a :: r, k + 1, h => by
    have := cellsI_at F r k (by simpa using h)
    rw [show (k + 1) * 2 = k * 2 + 1 + 1 by omega, cellsI_cons]
    simpa using this
theorem cellsI_range (F : Nat → Value) {n j : Nat} {u : Value} (h : (cellsI F (List.range n))[j]? = some u) : j < n * 2 ∧ u = F j := by
  have hj := (List.getElem?_eq_some_iff.1 h).1
  rw [cellsI_len, List.length_range] at hj
  refine ⟨hj, ?_⟩
  obtain ⟨e0, e1⟩ := cellsI_at F (List.range n) (j / 2) (by rw [List.length_range]; omega)
  have eg : (List.range n).getD (j / 2) 0 = j / 2 := by simp [List.getD_eq_getElem?_getD, List.getElem?_range (show j / 2 < n by omega)]
  rw [eg] at e0 e1
  rcases Nat.mod_two_eq_zero_or_one j with hm | hm
  · rw [show j / 2 * 2 = j by omega, h] at e0
    injection e0
  · rw [show j / 2 * 2 + 1 = j by omega, h] at e1
    injection e1

/-- The parts of a list's queries, each in blocks apart from the others'. -/
def PartsU (w : World) (lo hi : Nat) (F : Nat → Value) (p q : Nat → Nat) (us : UL) : Prop :=
  hi ≤ w.heap.size ∧ (∀ j, j < us.length → ∃ H ch B c mid, F (j * 2) = .slice H (us.getD j noU).1.length ch ∧ F (j * 2 + 1) = .slice B (us.getD j noU).2.length c ∧
      (us.getD j noU).2.length ≤ c ∧ c ≤ maxLen ∧ QO w (p j) mid (q j) H B ch c (us.getD j noU).1 (us.getD j noU).2 ∧ lo ≤ p j ∧ q j ≤ hi) ∧
    (∀ i j, i < us.length → j < us.length → i ≠ j → q i ≤ p j ∨ q j ≤ p i)
theorem PartsU.step {w w' : World} {lo hi : Nat} {F : Nat → Value} {p q : Nat → Nat} {us : UL} (h : PartsU w lo hi F p q us) (d : Below w.heap.size w w') : PartsU w' lo hi F p q us := by
  obtain ⟨h1, h2, h3⟩ := h
  refine ⟨Nat.le_trans h1 d.size, fun j hj => ?_, h3⟩
  obtain ⟨H, ch, B, c, mid, e0, e1, e2, e3, e4, e5, e6⟩ := h2 j hj
  exact ⟨H, ch, B, c, mid, e0, e1, e2, e3, e4.keep (fun b a b' => d.block b (by omega)) d.size, e5, e6⟩
theorem OwnU.parts {w : World} {lo hi g m : Nat} {us : UL} (h : OwnU w lo hi g m us.length us) : ∃ F p q, w.rowIs g 29 m F ∧ PartsU w lo hi F p q us := by
  obtain ⟨h1, h2, h3, F, p, q, hr, he, hd⟩ := h
  exact ⟨F, p, q, hr, h3, fun j hj => by
    obtain ⟨H, ch, B, c, mid, e0, e1, e2, e3, e4, e5, e6, _⟩ := he j hj
    exact ⟨H, ch, B, c, mid, e0, e1, e2, e3, e4, e5, e6⟩, hd⟩
theorem PartsU.one {w : World} {lo hi : Nat} {F : Nat → Value} {p q : Nat → Nat} {us : UL} (h : PartsU w lo hi F p q us) {ix : List Nat} (hx : ∀ j ∈ ix, j < us.length) : ∀ u ∈ cellsI F ix, u.oneCell' = true := by
  intro u hu
  obtain ⟨j, hj, hu⟩ := List.mem_flatMap.1 hu
  obtain ⟨H, ch, B, c, mid, e0, e1, _⟩ := h.2.1 j (hx j hj)
  simp only [List.mem_cons, List.not_mem_nil, or_false] at hu
  rcases hu with rfl | rfl
  · rw [e0]; rfl
  · rw [e1]; rfl
/-- A row of such parts is a list of queries that is read. -/
theorem rowsU {w : World} {base lo hi : Nat} {A : Option Addr} {c0 : Nat} {F : Nat → Value} {p q : Nat → Nat} {us : UL} {ix : List Nat} (hP : PartsU w lo hi F p q us) (hx : ∀ j ∈ ix, j < us.length) (h : w.ownsRow base 29 2 (.slice A ix.length c0) ix.length (cellsI F ix)) : RU w A (ix.map (atU us)) := fun hne => by
  have hn : 0 < ix.length := by
    rcases ix with _ | ⟨a, r⟩
    · exact absurd rfl hne
    · simp
  rcases h.2 with ⟨hv, h0⟩ | ⟨g, cap, cur, hv, hbk, hk, hr⟩
  · omega
  · injection hv with e1 e2 e3
    subst e1
    refine ⟨g, 0, rfl, Nat.zero_le _, (Array.getElem?_eq_some_iff.1 hk).1, fun k hk' => ?_⟩
    rw [List.length_map] at hk'
    have hm : ix.getD k 0 ∈ ix := by
      rw [List.getD_eq_getElem?_getD, List.getElem?_eq_getElem hk']
      exact List.getElem_mem hk'
    have hq : (ix.map (atU us)).getD k noU = us.getD (ix.getD k 0) noU := by
      simp [List.getD_eq_getElem?_getD, List.getElem?_eq_getElem hk', atU]
    obtain ⟨f0, f1⟩ := cellsI_at F ix k hk'
    obtain ⟨H, ch, B, c, mid, e0, e1, e2, e3, e4, e5, e6⟩ := hP.2.1 _ (hx _ hm)
    have q1 := World.ownsRow.cells h (g := g) rfl _ _ f0
    have q2 := World.ownsRow.cells h (g := g) rfl _ _ f1
    rw [add_eq] at q1 q2
    rw [hq]
    obtain ⟨⟨r, hv⟩, ha, hm1, hm2, hm3⟩ := e4
    have hi1 := hv.ints
    refine ⟨H, ch, B, c, ?_, ?_, hi1.2.1, hi1.2.2.1, e2, e3, hi1.2.2.2.mono (Nat.zero_le _) (by omega), ?_⟩
    · rw [q1, e0]
    · rw [show 0 + k * 2 + 1 = 0 + (k * 2 + 1) by omega, q2, e1]
    · rcases ha with ha | ⟨g', m', hB, ha, hm'⟩
      · rw [ha]; exact fun hne => absurd rfl hne
      · rw [hB]; exact (ha.facts hm').mono (Nat.zero_le _) hm3
/-- And, each number once, one of the call's own. -/
theorem ownU_rows {w : World} {base lo hi g cap : Nat} {F : Nat → Value} {p q : Nat → Nat} {us : UL} {ix : List Nat} (hP : PartsU w lo hi F p q us) (hx : ∀ j ∈ ix, j < us.length) (hnd : ix.Nodup) (hlo : lo ≤ hi) (hb : hi ≤ base) (hne : 0 < ix.length)
    (h : w.ownsRow base 29 2 (.slice (some ⟨g, 0, none⟩) ix.length cap) ix.length (cellsI F ix)) : ix.length * 2 ≤ cap * 2 ∧ OwnU w lo w.heap.size g (cap * 2) ix.length (ix.map (atU us)) := by
  have hL := h.1
  rcases h.2 with ⟨hv, h0⟩ | ⟨g', cap', cur, hv, hbk, hk, hnc, hcm, hcs, htk⟩
  · cases hv
  · injection hv with e1 e2 e3
    injection e1 with e1
    injection e1 with e1
    subst e1 e3
    have hgs := (Array.getElem?_eq_some_iff.1 hk).1
    have hat : ∀ i, i < ix.length * 2 → cur.getD i undef = (cellsI F ix).getD i undef := fun i hi => by
      rw [← htk, Array.getD_eq_getD_getElem?, List.getD_eq_getElem?_getD, List.getElem?_take_of_lt hi, Array.getElem?_toList]
    refine ⟨by omega, by omega, hgs, Nat.le_refl _, fun i => cur.getD i undef, fun k => p (ix.getD k 0), fun k => q (ix.getD k 0), ⟨cur, hk, hcs, fun i hi => by simp [Array.getD_eq_getD_getElem?, show i < cur.size by omega]⟩, fun k hk' => ?_, fun i j hi' hj' hij => ?_⟩
    · have hm : ix.getD k 0 ∈ ix := by
        rw [List.getD_eq_getElem?_getD, List.getElem?_eq_getElem hk']
        exact List.getElem_mem hk'
      have hq : (ix.map (atU us)).getD k noU = us.getD (ix.getD k 0) noU := by
        simp [List.getD_eq_getElem?_getD, List.getElem?_eq_getElem hk', atU]
      obtain ⟨f0, f1⟩ := cellsI_at F ix k hk'
      obtain ⟨H, ch, B, c, mid, e0, e1, e2, e3, e4, e5, e6⟩ := hP.2.1 _ (hx _ hm)
      have hh := hP.1
      refine ⟨H, ch, B, c, mid, ?_, ?_, ?_, e3, ?_, e5, (by dsimp only; omega), .inr (by dsimp only; omega)⟩
      · show cur.getD (k * 2) undef = _
        rw [hat _ (by omega), List.getD_eq_getElem?_getD, f0, hq, ← e0]
        rfl
      · show cur.getD (k * 2 + 1) undef = _
        rw [hat _ (by omega), List.getD_eq_getElem?_getD, f1, hq, ← e1]
        rfl
      · rw [hq]; exact e2
      · rw [hq]; exact e4
    · have h1 : ix.getD i 0 = ix[i] := by simp [List.getD_eq_getElem?_getD, List.getElem?_eq_getElem hi']
      have h2 : ix.getD j 0 = ix[j] := by simp [List.getD_eq_getElem?_getD, List.getElem?_eq_getElem hj']
      have hpw := List.pairwise_iff_getElem.1 hnd
      have hne : ix.getD i 0 ≠ ix.getD j 0 := by
        rw [h1, h2]
        rcases Nat.lt_or_gt_of_ne hij with h3 | h3
        · exact hpw i j hi' hj' h3
        · exact fun e => hpw j i hj' hi' h3 e.symm
      exact hP.2.2 _ _ (hx _ (by rw [h1]; exact List.getElem_mem hi')) (hx _ (by rw [h2]; exact List.getElem_mem hj')) hne

theorem sumU_sub : ∀ {a b : UL}, a.Sublist b → sumU a ≤ sumU b ∧ a.length ≤ b.length := by
  intro a b h
  induction h with
  | slnil => exact ⟨Nat.le_refl _, Nat.le_refl _⟩
  | cons x _ ih =>
    simp only [sumU, List.map_cons, List.sum_cons, List.length_cons] at ih ⊢
    omega
  | cons_cons x _ ih =>
    simp only [sumU, List.map_cons, List.sum_cons, List.length_cons] at ih ⊢
    omega
theorem szU_sub {us : UL} {ix : List Nat} (h : ix.Sublist (List.range us.length)) (hz : szU us ≤ 1048576) : szU (ix.map (atU us)) ≤ 1048576 := by
  have h1 := sumU_sub (h.map (atU us))
  rw [range_atU] at h1
  unfold szU at hz ⊢
  omega
theorem sub_lt {n : Nat} {ix : List Nat} (h : ix.Sublist (List.range n)) : ∀ j ∈ ix, j < n := fun j hj => List.mem_range.1 (h.subset hj)
theorem sub_len {n : Nat} {ix : List Nat} (h : ix.Sublist (List.range n)) : ix.length ≤ n := by have := h.length_le; simpa using this
theorem sub_nodup {n : Nat} {ix : List Nat} (h : ix.Sublist (List.range n)) : ix.Nodup := h.nodup List.nodup_range
theorem sub_less {kept : List Nat} {r m : Nat} : (kept ++ List.range' (r + 1) m).Sublist (kept ++ List.range' r (m + 1)) := by
  rw [List.range'_succ]
  exact (List.Sublist.refl _).append (List.sublist_cons_self _ _)
theorem minI_sub (s : List Int) (f : Nat → Qr) : ∀ (m : Nat) (kept : List Nat) (r : Nat), (minI s f kept r m).Sublist (kept ++ List.range' r m)
  | 0, kept, r => by rw [minI]; simp
  | m + 1, kept, r => by
    by_cases h : cinB s (f r).1 (f r).2 ((kept ++ List.range' (r + 1) m).map f) = true
    · rw [minI_yes h]
      exact (minI_sub s f m kept (r + 1)).trans sub_less
    · rw [minI_no (by simpa using h), left_more]
      exact minI_sub s f m (kept ++ [r]) (r + 1)
theorem minI_pos (s : List Int) (f : Nat → Qr) : ∀ (m : Nat) (kept : List Nat) (r : Nat), 0 < kept.length + m → 0 < (minI s f kept r m).length
  | 0, kept, r, h => by rw [minI]; omega
  | m + 1, kept, r, h => by
    by_cases hc : cinB s (f r).1 (f r).2 ((kept ++ List.range' (r + 1) m).map f) = true
    · rw [minI_yes hc]
      refine minI_pos s f m kept (r + 1) ?_
      rcases Nat.eq_zero_or_pos (kept.length + m) with h0 | h0
      · exfalso
        have e1 : kept = [] := List.eq_nil_of_length_eq_zero (by omega)
        have e2 : m = 0 := by omega
        subst e1 e2
        simp [cinB, noC] at hc
      · exact h0
    · rw [minI_no (by simpa using hc)]
      exact minI_pos s f m (kept ++ [r]) (r + 1) (by rw [List.length_append]; simp; omega)

set_option maxHeartbeats 1000000 in
set_option maxRecDepth 100000 in
theorem minU1_any (g : Nat) (S : Option Addr) (cs : Nat) (s : List Int) (H B : Option Addr) (ch cb : Nat) (h : List Int) (l : FL) (A : Option Addr) (c : Nat) (us : UL) (hls : s.length ≤ 1048576) (hh : h.length ≤ 1048576) (hl : szF l ≤ 1048576) (hz : szU us ≤ 1048576)
    (w : World) (hS : RI w S s) (hH : RI w H h) (hB : RF w B l) (hU : RU w A us) (b1 : Box w g #[.slice S s.length cs] 22) :
    Calls Tryz.prog 71 #[.agg #[.slice H h.length ch, .slice B l.length cb], .slice A us.length c, .pointer (some ⟨g, 0, none⟩)] w fun e w' => e = .returned (.bool (cinB s h l us)) ∧ Below w.heap.size w w' := by
  have ba := below_alloc w (.cells #[.slice H h.length ch, .slice B l.length cb] 29)
  have BA := Lib.hid ba
  have xq := (Box.new w #[.slice H h.length ch, .slice B l.length cb] 29).cell 0
  have xq1 := (Box.new w #[.slice H h.length ch, .slice B l.length cb] 29).cell 1
  have xs := (b1.step ba).cell 0
  have gl := b1.lt
  simp only [List.getElem?_toArray, List.getElem?_cons_zero, List.getElem?_cons_succ] at xq xq1 xs
  have XC := Lib.hid (impl_ContainedIn S cs s H B ch cb h l A c us hls hh hl hz _ (hS.step ba) (hH.step ba) (hB.step ba) (hU.step ba))
  generalize cinB s h l us = res at XC ⊢
  clear hS hH hB hU b1 ba
  go_enter Tryz.func71, Tryz.ntmps71
  go_wp2_with fail
  refine XC.out.mono ?_
  rintro e u ⟨rfl, d⟩
  have D := Lib.hid (step BA.out d)
  clear d xq xq1 xs
  go_wp2
  go_ret
  exact ⟨rfl, D.out⟩

theorem cells_new2u (w : World) (v1 v2 : Value) (t : TypeId) : (w.alloc (.cells #[v1, v2] t)).cell? ⟨w.heap.size, 0, none⟩ = some v1 ∧ (w.alloc (.cells #[v1, v2] t)).cell? ⟨w.heap.size, 1, none⟩ = some v2 := by
  have h0 := (Box.new w #[v1, v2] t).cell 0
  have h1 := (Box.new w #[v1, v2] t).cell 1
  simp only [List.getElem?_toArray, List.getElem?_cons_zero, List.getElem?_cons_succ] at h0 h1
  exact ⟨h0, h1⟩
theorem cells_new2ud (w : World) (v1 v2 : Value) (t : TypeId) : (w.alloc (.cells #[v1, v2] t)).drew.cell? ⟨w.heap.size, 0, none⟩ = some v1 ∧ (w.alloc (.cells #[v1, v2] t)).drew.cell? ⟨w.heap.size, 1, none⟩ = some v2 := cells_new2u w v1 v2 t

/-- slices.Concat of what is left ahead of a query and behind it. -/
theorem concat_drop (b cap base lo hi : Nat) (F : Nat → Value) (p q : Nat → Nat) (us : UL) (kept : List Nat) (r m : Nat) (hsl : (kept ++ List.range' r (m + 1)).Sublist (List.range us.length)) (hul : us.length ≤ 1048576) (w : World) (hP : PartsU w lo hi F p q us)
    (h : w.ownsRow base 29 2 (.slice (some ⟨b, 0, none⟩) (kept.length + (m + 1)) cap) (kept.length + (m + 1)) (cellsI F (kept ++ List.range' r (m + 1))))
    (W : World) (hW : Below w.heap.size w W) (Bk n1 n2 c1 c2 o2 : Nat) (C0 : W.cell? ⟨Bk, 0, none⟩ = some (.slice (some ⟨b, 0, none⟩) n1 c1)) (C1 : W.cell? ⟨Bk, 1, none⟩ = some (.slice (some ⟨b, o2, none⟩) n2 c2)) (q1 : n1 = kept.length) (q2 : n2 = m) (q3 : m = 0 ∨ o2 = (kept.length + 1) * 2) :
    Calls Tryz.prog 115 #[.slice (some ⟨Bk, 0, none⟩) 2 2] W fun e w' => ∃ A c, e = .returned (.slice A (kept.length + m) c) ∧ w'.ownsRow w.heap.size 29 2 (.slice A (kept.length + m) c) (kept.length + m) (cellsI F (kept ++ List.range' (r + 1) m)) ∧ Below W.heap.size W w' := by
  subst q1 q2
  have hlen := sub_len hsl
  rw [List.length_append, List.length_range'] at hlen
  have hnb : b < w.heap.size := (h.lt b rfl).2
  have hcs : cellsI F (kept ++ List.range' r (n2 + 1)) = cellsI F kept ++ (F (r * 2) :: F (r * 2 + 1) :: cellsI F (List.range' (r + 1) n2)) := by
    rw [cellsI_append, List.range'_succ, cellsI_cons]
  have hx := sub_lt hsl
  have hat : ∀ j u, (cellsI F (kept ++ List.range' r (n2 + 1)))[j]? = some u → W.cell? ⟨b, j, none⟩ = some u := fun j u hj => by
    have e := World.ownsRow.cells h (g := b) rfl j u hj
    rw [add_eq, Nat.zero_add] at e
    exact (hW.cell (p := ⟨b, j, none⟩) hnb).trans e
  refine (concatQ_two Bk b 0 o2 kept.length n2 c1 c2 (cellsI F kept) (cellsI F (List.range' (r + 1) n2)) (cellsI_len F kept) (by rw [cellsI_len, List.length_range']) (by omega) (hP.one fun j hj => hx j (List.mem_append_left _ hj)) (hP.one fun j hj => hx j (sub_less.subset (List.mem_append_right _ hj))) W (Nat.lt_of_lt_of_le hnb hW.size) C0 C1 (fun j u hj => ?_) (fun j u hj => ?_)).mono ?_
  · rw [Nat.zero_add]
    refine hat j u ?_
    rw [hcs, List.getElem?_append_left (List.getElem?_eq_some_iff.1 hj).1]
    exact hj
  · have hlt := (List.getElem?_eq_some_iff.1 hj).1
    rw [cellsI_len, List.length_range'] at hlt
    rcases q3 with q3 | q3
    · omega
    · subst q3
      refine hat _ u ?_
      rw [hcs, List.getElem?_append_right (by rw [cellsI_len]; omega), cellsI_len, show (kept.length + 1) * 2 + j - kept.length * 2 = j + 1 + 1 by omega]
      simpa using hj
  · rintro e w' ⟨v, rfl, ho, hb⟩
    obtain ⟨A, c, rfl⟩ := ownsRow_form ho
    rw [← cellsI_append] at ho
    exact ⟨A, c, rfl, ownsRow_lo ho hW.size, hb⟩
end Go.Proofs.YtimlpdcambmcjaaGreat
