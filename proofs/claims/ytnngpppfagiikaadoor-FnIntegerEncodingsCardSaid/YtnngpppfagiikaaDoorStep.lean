/- Two laws for a region whose order is open: a call of a function that only reckons, and an append of two bytes. Conditions: none beyond each theorem's own. -/
import Derived.Test.YtnngpppfagiikaaDoorNum
import Derived.Deep.RegionLaw
namespace Go.Proofs.YtnngpppfagiikaaDoor
open Go.RowKit
set_option linter.unusedVariables false

theorem step_call1 {P : Program} {ops : Array Oper} {o : Oper} {a : Act} {w : World} {K : Act → World → Prop} {Q : Exit → Act → World → Prop} {E : Prop}
    (hgd : o.guard = none) (g : FuncId) (x : Operand) (t : TypeId) (ho : o.op = .call { callee := .value (.func g), args := #[x], argTypes := #[t] })
    (vx v : Value) (hx : a.eval x = vx) (hcf : (callFunc g #[vx]).run P w = .ok (.enter g #[vx]) w) (hc : Calls P g #[vx] w fun e w' => e = .returned v ∧ w = w') (hK : K (a.put o.dst v) w) :
    if Region.wanted o (yielded ops a.tmps) = true then Oper.wp P o a w K Q else E := by
  have hw : Region.wanted o (yielded ops a.tmps) = true := by simp [Region.wanted, hgd]
  rw [if_pos hw]
  unfold Oper.wp
  have hf : a.eval (.func g) = Value.func (.func g) #[] #[] := rfl
  have e : (execOp a.eval o).run P w = .ok (.enter g #[vx]) w := by
    rw [← hx] at hcf ⊢
    simpa [go_sem, execOp, ho, resolve, invoke] using hcf
  rw [e, Oper.upon_enter]
  refine hc.mono ?_
  rintro _ _ ⟨rfl, rfl⟩
  exact hK

theorem step_app2 {P : Program} {w w0 : World} {ops : Array Oper} {o : Oper} {a : Act} {K : Act → World → Prop} {Q : Exit → Act → World → Prop} {E : Prop} (hgd : o.guard = none) (s x : Operand) (t e : TypeId)
    (ho : o.op = .call { callee := .builtin .append, args := #[s, x], argTypes := #[t, t] })
    (i : TypeInfo) (ht : P.underlying t = some (.slice e)) (hi : P.info? e = some i) (hz : i.zero = some (.int .u8 0)) (hz1 : i.size = 1) (hz2 : i.bytes = 1)
    (base n : Nat) (v : Value) (xs : List Int) (ad : Addr) (c : Nat) (y z : Int) (hs : a.eval s = v) (hx : a.eval x = .slice (some ad) 2 c)
    (hown : w.ownsRow base e 1 v n (xs.map (Value.int .u8))) (hb : Below base w0 w) (hbase : base ≤ w.heap.size) (hn : n + 2 ≤ 140737488355328)
    (hc0 : w.cell? (ad.add 0) = some (.int .u8 y)) (hc1 : w.cell? (ad.add 1) = some (.int .u8 z))
    (h : ∀ v' w', w'.ownsRow base e 1 v' (n + 2) ((xs ++ [y, z]).map (Value.int .u8)) → Below base w0 w' → K (a.put o.dst v') w') :
    if Region.wanted o (yielded ops a.tmps) = true then Oper.wp P o a w K Q else E := by
  have hw : Region.wanted o (yielded ops a.tmps) = true := by simp [Region.wanted, hgd]
  rw [if_pos hw]
  refine wp_append_own (P := P) _ s x t ho base e i (.int .u8 0) 1 1 ht hi hz hz1 hz2 rfl (by omega) v n _ hs hown ad 2 c [.int .u8 y, .int .u8 z] hx rfl
    (fun j u hj => by
      rcases j with _ | _ | j
      · simp at hj; subst hj; exact hc0
      · simp at hj; subst hj; exact hc1
      · simp at hj) (by intro u hu; simp at hu; rcases hu with rfl | rfl <;> rfl)
    (by unfold maxLen; omega) (by omega) hbase ?_
  intro v' w' hown' hg _
  refine h v' w' (by simpa using hown') (hb.grown hg hbase fun k hk => ?_)
  exact (hown.lt k hk).1
end Go.Proofs.YtnngpppfagiikaaDoor
