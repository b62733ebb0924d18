/- What the two functions StartReach answer: the values among the seeds, ascending. Conditions: none beyond each theorem's own. -/
import Derived.Test.YtnmhppiccganoaaDoorRch
import Derived.Test.YtnmhppiccganoaaDoorAg9

namespace Go.Proofs.YtnmhppiccganoaaDoor
open Go.ChangeShapes Go.WideShapes Go.ChangeAt Go.RowKit Go.Sort
set_option linter.unusedVariables false
set_option linter.unusedSimpArgs false

/-- Lists that ascend and hold the same numbers are equal. -/
theorem asc_ext : ∀ (l l' : List Int), Asc l → Asc l' → (∀ x, x ∈ l ↔ x ∈ l') → l = l'
  | [], [], _, _, _ => rfl
  | [], y :: ys, _, _, h => by have := (h y).2 (by simp); simp at this
  | x :: xs, [], _, _, h => by have := (h x).1 (by simp); simp at this
  | x :: xs, y :: ys, h1, h2, h => by
    have a1 : (∀ b ∈ xs, x < b) ∧ Asc xs := by simpa [Asc, List.pairwise_cons] using h1
    have a2 : (∀ b ∈ ys, y < b) ∧ Asc ys := by simpa [Asc, List.pairwise_cons] using h2
    have e : x = y := by
      have hx := (h x).1 (by simp)
      have hy := (h y).2 (by simp)
      rcases List.mem_cons.1 hx with rfl | hx
      · rfl
      · rcases List.mem_cons.1 hy with rfl | hy
        · rfl
        · have := a1.1 y hy; have := a2.1 x hx; omega
    subst e
    rw [asc_ext xs ys a1.2 a2.2 fun b => ?_]
    constructor
    · intro hb
      rcases List.mem_cons.1 ((h b).1 (by simp [hb])) with rfl | hb'
      · have := a1.1 b hb; omega
      · exact hb'
    · intro hb
      rcases List.mem_cons.1 ((h b).2 (by simp [hb])) with rfl | hb'
      · have := a2.1 b hb; omega
      · exact hb'

/-- The numbers of xs from 0 to below n, in order. -/
def vUp (xs : List Int) : Nat → List Int
  | 0 => []
  | n + 1 => if (n : Int) ∈ xs then vUp xs n ++ [(n : Int)] else vUp xs n
theorem vUp_yes {xs : List Int} {n : Nat} (h : decide ((n : Int) ∈ xs) = true) : vUp xs (n + 1) = vUp xs n ++ [(n : Int)] := by simp only [vUp]; rw [if_pos (by simpa using h)]
theorem vUp_no {xs : List Int} {n : Nat} (h : decide ((n : Int) ∈ xs) = false) : vUp xs (n + 1) = vUp xs n := by simp only [vUp]; rw [if_neg (by simpa using h)]
theorem vUp_mem (xs : List Int) : ∀ (n : Nat) (x : Int), x ∈ vUp xs n ↔ x ∈ xs ∧ 0 ≤ x ∧ x < n
  | 0, x => by
    simp only [vUp]
    constructor
    · intro h; simp at h
    · rintro ⟨_, h1, h2⟩; omega
  | n + 1, x => by
    simp only [vUp]
    split
    · rename_i h
      rw [List.mem_append, vUp_mem xs n x]
      simp only [List.mem_singleton]
      constructor
      · rintro (⟨h1, h2, h3⟩ | rfl)
        · exact ⟨h1, h2, by omega⟩
        · exact ⟨h, by omega, by omega⟩
      · rintro ⟨h1, h2, h3⟩
        by_cases hx : x = n
        · exact .inr hx
        · exact .inl ⟨h1, h2, by omega⟩
    · rename_i h
      rw [vUp_mem xs n x]
      constructor
      · rintro ⟨h1, h2, h3⟩
        exact ⟨h1, h2, by omega⟩
      · rintro ⟨h1, h2, h3⟩
        refine ⟨h1, h2, ?_⟩
        rcases Int.lt_or_le x n with h4 | h4
        · exact h4
        · exact absurd (show (n : Int) ∈ xs by rwa [show (n : Int) = x by omega]) h
theorem vUp_asc (xs : List Int) : ∀ n : Nat, Asc (vUp xs n)
  | 0 => List.Pairwise.nil
  | n + 1 => by
    simp only [vUp]
    split
    · refine List.pairwise_append.2 ⟨vUp_asc xs n, List.pairwise_singleton _ _, fun a ha b hb => ?_⟩
      simp at hb
      subst hb
      exact ((vUp_mem xs n a).1 ha).2.2
    · exact vUp_asc xs n
theorem vUp_len (xs : List Int) : ∀ n : Nat, (vUp xs n).length ≤ n
  | 0 => by simp [vUp]
  | n + 1 => by
    have := vUp_len xs n
    simp only [vUp]
    split <;> simp <;> omega
theorem vUp_wl (xs : List Int) : vUp xs 10 = wl 0 9 xs :=
  asc_ext _ _ (vUp_asc _ _) (wl_asc _ _ _) fun x => by
    rw [vUp_mem, wl_mem]
    simp [inB]
    intro _ _
    omega

theorem ints_set {w : World} {lo : Nat} {A : Option Addr} {xs : List Int} (h : Ints w lo w.heap.size A xs) {p : Addr} (hp : p.block < lo) (u : Value) : Ints (w.setCell p u) lo (w.setCell p u).heap.size A xs := by
  rw [set_size]
  exact h.keep fun b h1 _ => Below.heap_setCell _ _ _ _ (by omega)
theorem gv_set {w : World} {lo : Nat} {A : Option Addr} {c : Nat} {xs : List Int} (h : GV w lo w.heap.size A c xs) {p : Addr} (hp : p.block < lo) (u : Value) : GV (w.setCell p u) lo (w.setCell p u).heap.size A c xs := by
  rw [set_size]
  exact h.keep (fun b h1 _ => Below.heap_setCell _ _ _ _ (by omega)) (by rw [set_size]; exact Nat.le_refl _)
theorem GV.lo {w : World} {lo lo' hi : Nat} {A : Option Addr} {c : Nat} {xs : List Int} (h : GV w lo hi A c xs) (hl : lo' ≤ lo) : GV w lo' hi A c xs := by
  obtain ⟨⟨q, h1⟩, h2, h3⟩ := h
  exact ⟨⟨q, h1.mono hl (Nat.le_refl _)⟩, h2, by omega⟩
/-- What StartReach of the model returns. -/
def StartS (w : World) (xs : List Int) (e : Ending) (w' : World) : Prop := ∃ V d, e = .returned (.agg #[.slice none 0 0, .slice V xs.length d, .slice none 0 0, .int .i64 0]) ∧ Ints w' w.heap.size w'.heap.size V xs ∧ Below w.heap.size w w'
/-- What StartReach of the program returns. -/
def StartI (w : World) (xs : List Int) (e : Ending) (w' : World) : Prop := ∃ V d, e = .returned (.agg #[.slice none 0 0, .slice V xs.length d, .slice none 0 0, .int .i64 0]) ∧ GV w' w.heap.size w'.heap.size V d xs ∧ Below w.heap.size w w'

/-- A call of two arguments as one step of a region that draws. -/
theorem callP2 {P : Program} {ops : Array Oper} {o : Oper} {a : Act} {w : World} {K : Act → World → Prop} {Q : Exit → Act → World → Prop} {E : Prop}
    (hgd : o.guard = none) (g : FuncId) (x y : Operand) (t t' : TypeId) (ho : o.op = .call { callee := .value (.func g), args := #[x, y], argTypes := #[t, t'] })
    (vx vy : Value) (hx : a.eval x = vx) (hy : a.eval y = vy) (hcf : (callFunc g #[vx, vy]).run P w = .ok (.enter g #[vx, vy]) w) {R : Value → World → Prop} (hc : Calls P g #[vx, vy] w fun e w' => ∃ v, e = .returned v ∧ R v w') (hK : ∀ v w', R v w' → K (a.put o.dst v) w') :
    if Region.wanted o (yielded ops a.tmps) = true then Oper.wp P o a w K Q else E := by
  have hw : Region.wanted o (yielded ops a.tmps) = true := by simp [Region.wanted, hgd]
  rw [if_pos hw]
  unfold Oper.wp
  have hf : a.eval (.func g) = Value.func (.func g) #[] #[] := rfl
  have e : (execOp a.eval o).run P w = .ok (.enter g #[vx, vy]) w := by
    rw [← hx, ← hy] at hcf ⊢
    simpa [go_sem, execOp, ho, resolve, invoke] using hcf
  rw [e, Oper.upon_enter]
  refine hc.mono ?_
  rintro _ w' ⟨v, rfl, d⟩
  exact hK v w' d

abbrev RZ0 : Array Value := #[.slice none 0 0, .slice none 0 0, .slice none 0 0, .int .i64 0]
theorem StartS.toV {w : World} {xs : List Int} {e : Ending} {w' : World} (h : StartS w xs e w') : ∃ V d, e = .returned (.agg #[.slice none 0 0, .slice V xs.length d, .slice none 0 0, .int .i64 0]) ∧ IV w' w.heap.size w'.heap.size V xs ∧ Below w.heap.size w w' := by
  obtain ⟨V, d, he, hi, hb⟩ := h
  exact ⟨V, d, he, ⟨hi, Nat.le_refl _⟩, hb⟩
end Go.Proofs.YtnmhppiccganoaaDoor
