/- slices.Grow from nothing, and slices.Concat of two lists of facts. Conditions: none beyond each theorem's own. -/
import Derived.Test.YtenondgjipmhnaaAddM
import Derived.Lib.AppendZerosOnto
namespace Go.Proofs.Ytenondgjipmhnaa
open Go.ChangeShapes Go.WideShapes Go.ChangeAt Go.RowKit Go.Sort
set_option linter.unusedVariables false
set_option linter.unusedSimpArgs false

/-- An append whose run is known. -/
theorem wpList_append_known {P : Program} {w : World} {ops : Array Oper} {rest : List Oper} {o : Oper} {a : Act} {Q : Exit → Act → World → Prop} (hgd : o.guard = none) (s x : Operand) (t tn : TypeId)
    (ho : o.op = .call { callee := .builtin .append, args := #[s, x], argTypes := #[t, tn] }) (v u r : Value) (w' : World) (hs : a.eval s = v) (hx : a.eval x = u)
    (hr : ∀ ty, (Builtin.append_ #[t, tn] ty #[v, u]).run P w = .ok r w') (h : wpList P ops Q rest (a.put o.dst r) w') : wpList P ops Q (o :: rest) a w := by
  refine wpList_plain hgd fun K hK => ?_
  unfold Oper.wp execOp
  simp only [ho, resolve, invoke, builtin, Sem.run_bind, Sem.run_pure, Result.andThen_ok, List.map_toArray, List.map_cons, List.map_nil, hs, hx, hr]
  exact hK _ _ h

set_option maxHeartbeats 1000000 in
set_option maxRecDepth 100000 in
theorem growF_one (n : Nat) (h1 : 0 < n) (h2 : n ≤ 1048576) (w : World) :
    Calls Try.prog 147 #[.slice none 0 0, .int .i64 (n : Int)] w fun e w' => ∃ g cap, e = .returned (.slice (some ⟨g, 0, none⟩) 0 cap) ∧ w'.ownsRow w.heap.size 98 2 (.slice (some ⟨g, 0, none⟩) 0 cap) 0 [] ∧ Below w.heap.size w w' := by
  obtain ⟨i0, hi0, hz0, hza, hzb⟩ := info_parts fact_info
  obtain ⟨G, hG⟩ : ∃ G, G = grownCap w n 0 98 := ⟨_, rfl⟩
  obtain ⟨ROW, hROW⟩ : ∃ ROW : Array Value, ROW = Builtin.zeroCells ((.agg #[.int .i64 0, .slice none 0 0] : Value).cells) n ++ Builtin.zeroCells ((.agg #[.int .i64 0, .slice none 0 0] : Value).cells) (G - n) := ⟨_, rfl⟩
  have hrz : ∀ ty, (Builtin.append_ #[50, 3] ty #[.slice none 0 0, .int .i64 (n : Int)]).run Try.prog w =
      .ok (.slice (some ⟨w.heap.size, 0, none⟩) n G) (w.drew.alloc (.cells ROW 98)) := fun ty => by
    have hold : (Builtin.firstCells i0.size 0 (.slice none 0 0)).run Try.prog w.drew = .ok (#[] : Array Value) w.drew := by simp [Builtin.firstCells]
    have h := Lib.run_append_grow_zeros w 50 3 ty 98 i0 _ .i64 .i64 Try.underlying50 Try.underlying3 hi0 hz0 none 0 0 [] hold n (by omega) (by omega) (by omega) (by omega) (by rw [hzb]; omega) (by rw [hzb]; exact growslice_fits (by omega) (by omega))
    rw [show 0 + n = n by omega, ← hG] at h
    rw [hROW]
    simpa using h
  have hGn : n ≤ G := by rw [hG]; exact grownCap_ge w _ _ _
  have hGm : G ≤ maxLen := by rw [hG]; exact grownCap_le_maxLen w n 0 98 (by unfold maxLen; omega)
  have hRs : ROW.size = G * 2 := by
    rw [hROW]
    simp [Builtin.zeroCells, Value.cells]
    omega
  have HR := Lib.hid hRs
  have p0 : (0 : Int) < (n : Int) := by omega
  have p1 : (n : Int) ≤ 1048576 := by omega
  have p2 : decide ((n : Int) < 0) = false := by simp
  have p3 : decide ((n : Int) > 0) = true := by simp; omega
  have gm : G ≤ 9223372036854775807 := by unfold maxLen at hGm; omega
  clear hG hROW hRs
  go_enter Try.func147, Try.ntmps147
  go_wp2_with (at_builtin; refine wpList_append_known rfl _ _ 50 3 rfl _ _ _ _ rfl rfl hrz ?_)
  go_ret
  exact ⟨_, _, rfl, ⟨rfl, .inr ⟨_, _, _, rfl, Nat.le_refl _, heap_alloc_new w.drew _, Nat.zero_le _, hGm, HR.out, by simp⟩⟩, step (below_alloc w _) (below_drew _)⟩

theorem growF_any (n1 n2 : Nat) (h1 : 0 < n1) (h2 : n1 + n2 ≤ 1048576) (w : World) :
    Calls Try.prog 147 #[.slice none 0 0, .int .i64 ((n1 : Int) + (n2 : Int))] w fun e w' => ∃ g cap, e = .returned (.slice (some ⟨g, 0, none⟩) 0 cap) ∧ w'.ownsRow w.heap.size 98 2 (.slice (some ⟨g, 0, none⟩) 0 cap) 0 [] ∧ Below w.heap.size w w' := by
  rw [show (n1 : Int) + (n2 : Int) = ((n1 + n2 : Nat) : Int) by omega]
  exact growF_one (n1 + n2) (by omega) h2 w

set_option maxHeartbeats 1000000 in
set_option maxRecDepth 100000 in
/-- slices.Concat of two parts of one row of facts. -/
theorem concat_two (B b o1 o2 n1 n2 c1 c2 : Nat) (xs ys : List Value) (hx : xs.length = n1 * 2) (hy : ys.length = n2 * 2) (h1 : 0 < n1) (h2 : n1 + n2 ≤ 1048576)
    (ox : ∀ u ∈ xs, u.oneCell' = true) (oy : ∀ u ∈ ys, u.oneCell' = true) (w : World) (nb : b < w.heap.size)
    (C0 : w.cell? ⟨B, 0, none⟩ = some (.slice (some ⟨b, o1, none⟩) n1 c1)) (C1 : w.cell? ⟨B, 1, none⟩ = some (.slice (some ⟨b, o2, none⟩) n2 c2))
    (X : ∀ j u, xs[j]? = some u → w.cell? ⟨b, o1 + j, none⟩ = some u) (Y : ∀ j u, ys[j]? = some u → w.cell? ⟨b, o2 + j, none⟩ = some u) :
    Calls Try.prog 125 #[.slice (some ⟨B, 0, none⟩) 2 2] w fun e w' => ∃ v, e = .returned v ∧ w'.ownsRow w.heap.size 98 2 v (n1 + n2) (xs ++ ys) ∧ Below w.heap.size w w' := by
  obtain ⟨i0, hi, hz0, hz1, hz2⟩ := info_parts fact_info
  have nB : B < w.heap.size := World.block_lt_of_cell? w _ C0
  have hb1 : (0 : Int) ≤ (n1 : Int) := by omega
  have hb2 : (0 : Int) ≤ (n2 : Int) := by omega
  have hb3 : (n1 : Int) + (n2 : Int) ≤ 1048576 := by omega
  have hb4 : decide ((n1 : Int) + (n2 : Int) < 0) = false := by simp; omega
  have hb5 : decide ((n1 : Int) < 0) = false := by simp
  have XX := Lib.hid X
  have YY := Lib.hid Y
  have OX := Lib.hid ox
  have OY := Lib.hid oy
  have HX := Lib.hid hx
  have HY := Lib.hid hy
  clear X Y ox oy hx hy
  go_enter Try.func125, Try.ntmps125
  go_wp2
  refine wp_loop_rounds 3 ?_
  rw [rounds_succ]
  go_wp2
  rw [rounds_succ]
  go_wp2
  rw [rounds_succ]
  go_wp2_with fail
  refine (growF_any n1 n2 h1 h2 w).mono ?_
  rintro e w1 ⟨g, cap, rfl, ho1, b1⟩
  have HO1 := Lib.hid ho1
  have HB1 := Lib.hid b1
  have D0 := (b1.cell (p := ⟨B, 0, none⟩) nB).trans C0
  have D1 := (b1.cell (p := ⟨B, 1, none⟩) nB).trans C1
  have nB1 := b1.size
  clear C0 C1 ho1 b1
  go_wp2
  refine wp_loop_rounds 3 ?_
  rw [rounds_succ]
  go_wp2_with (at_builtin; refine wpList_append_own_at (P := Try.prog) _ rfl _ _ 50 rfl w.heap.size 98 i0 _ 2 32 Try.underlying50 hi hz0 hz1 hz2 rfl (by omega) (.slice (some ⟨g, 0, none⟩) 0 cap) 0 [] rfl HO1.out ⟨b, o1, none⟩ n1 c1 xs rfl HX.out (fun j u hj => by rw [add_eq]; exact (HB1.out.cell (p := ⟨b, o1 + j, none⟩) nb).trans (XX.out j u hj)) OX.out (by unfold maxLen; omega) (by omega) HB1.out.size ?_; intro v2 w2 ho2 hg2 _ hv2)
  have d2 : Below w.heap.size w1 w2 := (Below.refl _ _).grown hg2 HB1.out.size (fun q hq => (HO1.out.lt q hq).1)
  have HO2 := Lib.hid ho2
  have HB2 := Lib.hid (HB1.out.trans d2)
  have e1 := (d2.cell (p := ⟨B, 1, none⟩) nB).trans D1
  clear ho2 hg2 hv2 d2 D0 D1
  rw [rounds_succ]
  go_wp2_with (at_builtin; refine wpList_append_own_at (P := Try.prog) _ rfl _ _ 50 rfl w.heap.size 98 i0 _ 2 32 Try.underlying50 hi hz0 hz1 hz2 rfl (by omega) v2 (0 + n1) ([] ++ xs) rfl HO2.out ⟨b, o2, none⟩ n2 c2 ys rfl HY.out (fun j u hj => by rw [add_eq]; exact (HB2.out.cell (p := ⟨b, o2 + j, none⟩) nb).trans (YY.out j u hj)) OY.out (by unfold maxLen; omega) (by omega) HB2.out.size ?_; intro v3 w3 ho3 hg3 _ hv3)
  have d3 : Below w.heap.size w2 w3 := (Below.refl _ _).grown hg3 HB2.out.size (fun q hq => (HO2.out.lt q hq).1)
  have HO3 := Lib.hid ho3
  have HB3 := Lib.hid (HB2.out.trans d3)
  clear ho3 hg3 hv3 d3
  rw [rounds_succ]
  go_wp2
  go_ret
  refine ⟨_, rfl, ?_, HB3.out⟩
  have := HO3.out
  rw [Nat.zero_add, List.nil_append] at this
  exact this
end Go.Proofs.Ytenondgjipmhnaa
