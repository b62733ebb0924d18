/- The model's greedy order. Conditions: none beyond each theorem's own. -/
import Derived.Test.YtcgmdleefaplfaaOr6
namespace Go.Proofs.Ytcgmdleefaplfaa
open Go.ChangeShapes Go.WideShapes Go.ChangeAt Go.RowKit Go.Sort
set_option linter.unusedVariables false
set_option linter.unusedSimpArgs false

theorem nextI_append (ms : ML) (l : FL) (bd : List Int) (xs ys : List Nat) : nextI ms l bd (xs ++ ys) = nextI ms l bd xs ++ nextI ms l bd ys := by simp [nextI]
theorem nextI_one (ms : ML) (l : FL) (bd : List Int) (i : Nat) : nextI ms l bd [i] = (firstsOf ms (l.getD i noF) bd ms.length).map fun j : Nat => ((i : Int), (j : Int)) := by simp [nextI]
theorem miss_pre (p : SL) (m : Nat) : ∀ j, ∃ r, miss (m + j) p = miss m p ++ r
  | 0 => ⟨[], by simp⟩
  | j + 1 => by
    obtain ⟨r, hr⟩ := miss_pre p m j
    by_cases h : usedB p ((m + j : Nat) : Int) = true
    · exact ⟨r, by rw [← Nat.add_assoc, miss_no h, hr]⟩
    · exact ⟨r ++ [m + j], by rw [← Nat.add_assoc, miss_yes (by simpa using h), hr, List.append_assoc]⟩
theorem firstI_cases (ms : ML) (a : Int × List Int) (bd : List Int) : (firstsOf ms a bd ms.length = [] ∧ firstI ms a bd = -1) ∨ ∃ (j : Nat) (r : List Nat), firstsOf ms a bd ms.length = j :: r ∧ firstI ms a bd = (j : Int) ∧ j < ms.length := by
  rcases h : firstsOf ms a bd ms.length with _ | ⟨j, r⟩
  · exact .inl ⟨rfl, firstI_no h⟩
  · refine .inr ⟨j, r, rfl, by unfold firstI; rw [h], ?_⟩
    have : j ∈ firstsOf ms a bd ms.length := by rw [h]; simp
    unfold firstsOf at this
    rw [List.mem_filter] at this
    simpa using this.1
theorem greedy_hit {ms : ML} {l : FL} {p : SL} {i j : Nat} {r : List Nat} (hi : i < l.length) (h0 : nextI ms l (bnd l p) (miss i p) = []) (hu : usedB p (i : Int) = false) (hf : firstsOf ms (l.getD i noF) (bnd l p) ms.length = j :: r) : stepG ms l p = p ++ [((i : Int), (j : Int))] := by
  obtain ⟨q, hq⟩ := miss_pre p (i + 1) (l.length - (i + 1))
  rw [show i + 1 + (l.length - (i + 1)) = l.length by omega, miss_yes hu] at hq
  have : nextS ms l p = ((i : Int), (j : Int)) :: ((r.map fun j : Nat => ((i : Int), (j : Int))) ++ nextI ms l (bnd l p) q) := by
    unfold nextS
    rw [hq, nextI_append, nextI_append, h0, nextI_one, hf]
    rfl
  exact stepG_cons this
theorem greedy_skip {ms : ML} {l : FL} {p : SL} {i : Nat} (h0 : nextI ms l (bnd l p) (miss i p) = []) (h : usedB p (i : Int) = true ∨ firstsOf ms (l.getD i noF) (bnd l p) ms.length = []) : nextI ms l (bnd l p) (miss (i + 1) p) = [] := by
  by_cases hu : usedB p (i : Int) = true
  · rw [miss_no hu, h0]
  · rcases h with h | h
    · exact absurd h hu
    · rw [miss_yes (by simpa using hu), nextI_append, h0, nextI_one, h]
      rfl
theorem own_ne {w : World} {base base' n : Nat} {v v' : Value} {l : SL} {cs : List Value} (h : ZS w base v l) (h' : w.ownsRow base' 3 1 v' n cs) : ∀ g, v.ownBlock = some g → v'.ownBlock ≠ some g := fun g hg hg' => by
  rcases h.2 with ⟨rfl, _⟩ | ⟨k, cap, cur, rfl, _, hk, _⟩
  · cases hg
  · rcases h'.2 with ⟨rfl, _⟩ | ⟨k', cap', cur', rfl, _, hk', _⟩
    · cases hg'
    · have e1 : k = g := by simpa [Value.ownBlock] using hg
      have e2 : k' = g := by simpa [Value.ownBlock] using hg'
      subst e1 e2
      rw [hk] at hk'
      injection hk' with hk'
      injection hk' with _ ht
      exact absurd ht (by decide)
theorem own_sep {w : World} {base base' n : Nat} {v v' : Value} {l : SL} {cs : List Value} (h : ZS w base v l) (h' : w.ownsRow base' 3 1 v' n cs) : v'.ownBlock = none ∨ v'.ownBlock ≠ v.ownBlock := by
  rcases hx : v'.ownBlock with _ | g
  · exact .inl rfl
  · exact .inr fun e => own_ne h h' g e.symm hx
theorem own_sep' {w : World} {base base' n : Nat} {v v' : Value} {l : SL} {cs : List Value} (h : ZS w base v l) (h' : w.ownsRow base' 3 1 v' n cs) : v.ownBlock = none ∨ v.ownBlock ≠ v'.ownBlock := by
  rcases hx : v.ownBlock with _ | g
  · exact .inl rfl
  · exact .inr fun e => own_ne h h' g hx e.symm
/-- append(v, y) of one step, in a new block: what is turned is v's own block. -/
theorem wpList_pushG2 {P : Program} {W : World} {ops : Array Oper} {rest : List Oper} {o : Oper} {a : Act} {Q : Exit → Act → World → Prop} (hgd : o.guard = none) (s x : Operand) (t : TypeId)
    (ho : o.op = .call { callee := .builtin .append, args := #[s, x], argTypes := #[t, t] })
    (i : TypeInfo) (ht : P.underlying t = some (.slice 94)) (hi : P.info? 94 = some i) (hz : i.zero = some (.agg #[.int .i64 0, .int .i64 0])) (hz1 : i.size = 2) (hz2 : i.bytes = 16)
    {base : Nat} {v : Value} {l : SL} {y1 y2 : Int} (hs : a.eval s = v) (hx : a.eval x = .slice (some ⟨W.heap.size, 0, none⟩) 1 1)
    (hown : ZS W base v l) (hbase : base ≤ W.heap.size) (hn : l.length + 1 ≤ 1048580)
    (h : ∀ v' w', ZS w' base v' (l ++ [(y1, y2)]) → W.grownBy w' v.ownBlock → wpList P ops Q rest (a.put o.dst v') w') :
    wpList P ops Q (o :: rest) a (W.alloc (.cells #[.int .i64 y1, .int .i64 y2] 94)) := by
  refine wpList_append_own (P := P) _ hgd s x t ho base 94 i _ 2 16 ht hi hz hz1 hz2 rfl (by omega) v l.length _ hs (hown.alloc _) ⟨W.heap.size, 0, none⟩ 1 1 [.int .i64 y1, .int .i64 y2] hx rfl
    (World.news_of_block (cs := #[.int .i64 y1, .int .i64 y2]) (t := 94) (fr := (0, 0)) (heap_alloc_new W _)) (by simp [Value.oneCell'])
    (by unfold maxLen; omega) (by omega) (by simp; omega) ?_
  intro v' w' hown' hg _
  refine h v' w' ?_ ((World.grownBy_alloc _ _ _).trans hg)
  unfold ZS
  rw [flatZ_snoc, List.length_append]
  exact hown'

end Go.Proofs.Ytcgmdleefaplfaa
