/- Trees of numbers in memory: their list. Conditions: none beyond each theorem's own. -/
import Derived.Test.YtimlpdcambmcjaaDoorTree
namespace Go.Proofs.YtimlpdcambmcjaaDoor
open Go.ChangeShapes Go.WideShapes Go.ChangeAt Go.RowKit Go.Sort
open Go.Deep (BT)
set_option linter.unusedVariables false
set_option linter.unusedSimpArgs false

theorem ownsRow_lo {w : World} {base base' : Nat} {e : TypeId} {size : Nat} {v : Value} {n : Nat} {cs : List Value} (h : w.ownsRow base e size v n cs) (hb : base' ≤ base) : w.ownsRow base' e size v n cs := by
  refine ⟨h.1, ?_⟩
  rcases h.2 with h2 | ⟨g, cap, cur, hv, hg, hr⟩
  · exact .inl h2
  · exact .inr ⟨g, cap, cur, hv, Nat.le_trans hb hg, hr⟩

/-- append(v, y) of one element as one step of a region that draws. -/
theorem step_pushG {P : Program} {w : World} {ops : Array Oper} {o : Oper} {a : Act} {K : Act → World → Prop} {Q : Exit → Act → World → Prop} {E : Prop} (hgd : o.guard = none) (s x : Operand) (t e : TypeId)
    (ho : o.op = .call { callee := .builtin .append, args := #[s, x], argTypes := #[t, t] })
    (i : TypeInfo) (ht : P.underlying t = some (.slice e)) (hi : P.info? e = some i) (hz : i.zero = some (.int .i64 0)) (hz1 : i.size = 1) (hz2 : i.bytes = 8)
    (base n : Nat) (v : Value) (cs : List Value) (ad : Addr) (c : Nat) (y : Value) (hs : a.eval s = v) (hx : a.eval x = .slice (some ad) 1 c) (hy : y.oneCell' = true)
    (hown : w.ownsRow base e 1 v n cs) (hbase : base ≤ w.heap.size) (hn : n + 1 ≤ 1048580)
    (hc0 : w.cell? (ad.add 0) = some y)
    (h : ∀ v' w', w'.ownsRow base e 1 v' (n + 1) (cs ++ [y]) → w.grownBy w' v.ownBlock → K (a.put o.dst v') w') :
    if Region.wanted o (yielded ops a.tmps) = true then Oper.wp P o a w K Q else E := by
  have hw : Region.wanted o (yielded ops a.tmps) = true := by simp [Region.wanted, hgd]
  rw [if_pos hw]
  refine wp_append_own (P := P) _ s x t ho base e i _ 1 8 ht hi hz hz1 hz2 rfl (by omega) v n _ hs hown ad 1 c [y] hx rfl
    (fun j u hj => by
      rcases j with _ | j
      · simp at hj; subst hj; exact hc0
      · simp at hj) (by intro u hu; simp at hu; subst hu; exact hy)
    (by unfold maxLen; omega) (by omega) hbase ?_
  intro v' w' hown' hg _
  exact h v' w' hown' hg

def ListT (w : World) (xs : List Int) (e : Ending) (w' : World) : Prop := ∃ v, e = .returned v ∧ w'.ownsRow w.heap.size 3 1 v xs.length (xs.map (Value.int .i64)) ∧ Below w.heap.size w w'

set_option maxHeartbeats 4000000 in
set_option maxRecDepth 100000 in
theorem listTerms_any (lo : Nat) : ∀ (t : BT Int) (w : World), At w lo t → (tl t).length ≤ 1048576 → Calls Tryd.prog 68 #[t.ptr] w (ListT w (tl t)) := by
  intro t
  induction t with
  | nil =>
    intro w h hn
    show Calls Tryd.prog 68 #[.pointer none] w _
    clear h hn
    go_enter Tryd.func68, Tryd.ntmps68
    go_wp2
    go_ret
    exact ⟨_, rfl, ⟨rfl, .inl ⟨rfl, rfl⟩⟩, Below.refl _ _⟩
  | node a o y l r ihl ihr =>
    intro w h hn
    obtain ⟨i0, hi, hz0, hz1, hz2⟩ := info_parts int_info
    obtain ⟨rfl, ha, hbx, hl, hr⟩ := id h
    have hlen : (tl l).length + 1 + (tl r).length ≤ 1048576 := by simp [tl] at hn; omega
    have HL := Lib.hid fun (W : World) (N : Below w.heap.size w W) => ihl W (hl.step N) (by omega)
    have HR := Lib.hid fun (W : World) (N : Below w.heap.size w W) => ihr W (hr.step N) (by omega)
    have g0 := hbx.cell 0
    have g1 := hbx.cell 1
    have g2 := hbx.cell 2
    simp only [List.getElem?_toArray, List.getElem?_cons_zero, List.getElem?_cons_succ] at g0 g1 g2
    have HT := Lib.hid fun (W : World) (N : Below w.heap.size w W) => (show W.cell? ⟨a, 0, none⟩ = some (.int .i64 y) ∧ W.cell? ⟨a, 1, none⟩ = some l.ptr ∧ W.cell? ⟨a, 2, none⟩ = some r.ptr from
      ⟨(N.cell (p := ⟨a, 0, none⟩) hbx.lt).trans g0, (N.cell (p := ⟨a, 1, none⟩) hbx.lt).trans g1, (N.cell (p := ⟨a, 2, none⟩) hbx.lt).trans g2⟩)
    have N := below_drew w
    have TL : tl (.node a 0 y l r) = (tl l ++ [y]) ++ tl r := by simp [tl]
    have HTL := Lib.hid TL
    clear ihl ihr hl hr h hn hbx TL
    obtain ⟨pl, hpl⟩ := ptr_form l
    obtain ⟨pr, hpr⟩ := ptr_form r
    rw [hpl] at HL HT g1
    rw [hpr] at HR HT g2
    generalize tl l = xl at HL HTL hlen
    generalize tl r = xr at HR HTL hlen
    rw [HTL.out]
    clear HTL hpl hpr
    show Calls Tryd.prog 68 #[.pointer (some ⟨a, 0, none⟩)] w _
    go_enter Tryd.func68, Tryd.ntmps68
    go_wp2
    go_region_held3 (fun w' => w'.cell? ⟨a, 0, none⟩ = some (.int .i64 y) ∧ w'.cell? ⟨a, 1, none⟩ = some (.pointer pl) ∧ w'.cell? ⟨a, 2, none⟩ = some (.pointer pr))
      (first
        | exact HT.out _ N
        | exact HT.out _ (N.alloc N.size _))
      (first
        | (refine step_pushG rfl _ _ _ 3 rfl i0 Tryd.underlying30 hi hz0 hz1 hz2 w.heap.size xl.length (.slice AL xl.length cL) (xl.map (Value.int .i64)) _ 1 (.int .i64 y) rfl rfl rfl (by first | exact FL.out | exact FL.out.alloc _) (by first | exact N.size | exact (N.alloc N.size _).size) (by omega) (by first | (simp [Addr.add]; done) | exact (KD.out ⟨w.heap.size, 0, none⟩ (by show w.heap.size < (w.alloc (.cells #[.int .i64 y] 3)).heap.size; simp)).trans (by show (w.alloc (.cells #[.int .i64 y] 3)).cell? ⟨w.heap.size, 0, none⟩ = _; simp)) ?_
           intro vA uA hownA hgA
           obtain ⟨AA, cA, rfl⟩ := ownsRow_form hownA
           have NN : Below w.heap.size w uA := by first | exact N.grown hgA N.size (fun k hk => (FL.out.lt k hk).1) | exact (N.alloc N.size _).grown hgA (N.alloc N.size _).size (fun k hk => (FL.out.lt k hk).1)
           have FA := Lib.hid hownA
           clear N hownA hgA
           have N := NN
           clear NN)
        | (refine step_appendR rfl _ _ _ 3 rfl i0 Tryd.underlying30 hi hz0 hz1 hz2 w.heap.size (xl.length + 1) (.slice AA (xl.length + 1) cA) (xl.map (Value.int .i64) ++ [.int .i64 y]) rfl 0 _ A2 c2 xr rfl (by exact FA.out) (by exact FG.out) N N.size (by omega) ?_
           intro vR uR hownR NR _
           have FR := Lib.hid hownR
           clear N hownR
           have N := NR
           clear NR)
        | (have FA0 := FA.out
           clear FA0
           go_at_call 68; refine (HR.out _ N).mono ?_; rintro e uG ⟨vG, rfl, hown, d⟩
           obtain ⟨A2, c2, rfl⟩ := ownsRow_form hown
           have NN : Below w.heap.size w uG := N.trans (d.mono N.size)
           obtain ⟨qG, hv⟩ := ownV_of_row hown
           have FA2 := Lib.hid (ownsRow_step FA.out d)
           clear FA
           have FA := FA2
           have FG := Lib.hid (show RI uG A2 xr from (hv.ints).2.2.2.mono (Nat.zero_le _) (Nat.le_refl _))
           clear hv FA2 N hown d
           have N := NN
           clear NN)
        | (go_at_call 68; refine (HL.out _ (by first | exact N | exact N.alloc N.size _)).mono ?_; rintro e uL ⟨vL, rfl, hown, d⟩
           obtain ⟨AL, cL, rfl⟩ := ownsRow_form hown
           have NN : Below w.heap.size w uL := by first | exact N.trans (d.mono N.size) | exact (N.alloc N.size _).trans (d.mono (N.alloc N.size _).size)
           have KD := Lib.hid fun (p : Addr) h => d.cell (p := p) h
           have FL := Lib.hid (ownsRow_lo hown (by first | exact N.size | exact (N.alloc N.size _).size))
           clear N hown d
           have N := NN
           clear NN))
    all_goals
      have FR2 : uR.ownsRow w.heap.size 3 1 vR (xl ++ [y] ++ xr).length ((xl ++ [y] ++ xr).map (Value.int .i64)) := by
        have := FR.out
        simpa [Nat.add_assoc, Nat.add_comm 1] using this
      have HR2 := Lib.hid FR2
      clear FR2
      go_wp2
      go_ret
      exact ⟨_, rfl, HR2.out, N⟩
end Go.Proofs.YtimlpdcambmcjaaDoor
