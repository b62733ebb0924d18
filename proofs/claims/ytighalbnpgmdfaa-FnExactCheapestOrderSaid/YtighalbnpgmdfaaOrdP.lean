/- Orders, purely: which steps are possible, the greedy order, all orders. Conditions: none beyond each theorem's own. -/
import Derived.Test.YtighalbnpgmdfaaVars
import Derived.Test.YtighalbnpgmdfaaMths
import Derived.Test.YtighalbnpgmdfaaStp
import Derived.Test.YtighalbnpgmdfaaQI
namespace Go.Proofs.Ytighalbnpgmdfaa
open Go.ChangeShapes Go.WideShapes Go.ChangeAt Go.RowKit Go.Sort
set_option linter.unusedVariables false
set_option linter.unusedSimpArgs false

abbrev noF : Int × List Int := (0, [])
/-- Is the value at position p of the terms known? -/
def canAt (ts bound : List Int) (p : Int) : Bool := inB p 0 ((ts.length : Int) - 1) && (!inB (ts.getD p.toNat 0) 10 17 || decide (ts.getD p.toNat 0 ∈ bound))
def canN (inp ts bound : List Int) (n : Nat) : Bool := (List.range n).all fun k => canAt ts bound (inp.getD k 0)
theorem canN_succ (inp ts bound : List Int) (k : Nat) : canN inp ts bound (k + 1) = (canN inp ts bound k && canAt ts bound (inp.getD k 0)) := by
  unfold canN
  rw [List.range_succ, List.all_append]
  simp
theorem canN_not (inp ts bound : List Int) (k n : Nat) (hk : k < n) (h : canAt ts bound (inp.getD k 0) = false) : canN inp ts bound n = false := by
  unfold canN
  rw [List.all_eq_false]
  exact ⟨k, by simpa using hk, by rw [h]; simp⟩
def canB (r : Int) (inp : List Int) (ra : Int) (ts bound : List Int) : Bool := decide (r = ra) && canN inp ts bound inp.length
def canM (m : Met) (a : Int × List Int) (bound : List Int) : Bool := canB m.1 m.2.1 a.1 a.2 bound

/-- The atoms that are called, and the variables that are bound then. -/
def called (l : FL) (p : SL) : FL := p.map fun st => l.getD st.1.toNat noF
def bnd (l : FL) (p : SL) : List Int := wl 10 17 (terms (called l p))
theorem called_snoc (l : FL) (p : SL) (st : Int × Int) : called l (p ++ [st]) = called l p ++ [l.getD st.1.toNat noF] := by simp [called]
theorem terms_snoc (l : FL) (r : Int) (xs : List Int) : terms (l ++ [(r, xs)]) = terms l ++ xs := by simp [terms]
theorem bnd_nil (l : FL) : bnd l [] = [] := rfl
def usedB (p : SL) (i : Int) : Bool := decide (i ∈ p.map Prod.fst)
theorem usedB_snoc (p : SL) (st : Int × Int) (i : Int) : usedB (p ++ [st]) i = (usedB p i || decide (i = st.1)) := by
  rw [Bool.eq_iff_iff]
  simp only [usedB, List.map_append, List.mem_append, List.map_cons, List.map_nil, List.mem_singleton, Bool.or_eq_true, decide_eq_true_eq]
def miss (n : Nat) (p : SL) : List Nat := (List.range n).filter fun i => !usedB p (i : Int)
def firstsOf (ms : ML) (a : Int × List Int) (bound : List Int) (n : Nat) : List Nat := (List.range n).filter fun j => canM (ms.getD j noM) a bound
theorem firstsOf_yes {ms : ML} {a : Int × List Int} {bound : List Int} {k : Nat} (h : canM (ms.getD k noM) a bound = true) : firstsOf ms a bound (k + 1) = firstsOf ms a bound k ++ [k] := by
  unfold firstsOf
  rw [List.range_succ, List.filter_append, List.filter_cons, if_pos h, List.filter_nil]
theorem firstsOf_no {ms : ML} {a : Int × List Int} {bound : List Int} {k : Nat} (h : canM (ms.getD k noM) a bound = false) : firstsOf ms a bound (k + 1) = firstsOf ms a bound k := by
  unfold firstsOf
  rw [List.range_succ, List.filter_append, List.filter_cons, if_neg (by rw [h]; decide), List.filter_nil, List.append_nil]
/-- The possible next steps for the atoms in is. -/
def nextI (ms : ML) (l : FL) (bound : List Int) (is : List Nat) : SL := is.flatMap fun i => (firstsOf ms (l.getD i noF) bound ms.length).map fun j : Nat => ((i : Int), (j : Int))
def nextS (ms : ML) (l : FL) (p : SL) : SL := nextI ms l (bnd l p) (miss l.length p)
theorem nextI_snoc (ms : ML) (l : FL) (bound : List Int) (is : List Nat) (i : Nat) : nextI ms l bound (is ++ [i]) = nextI ms l bound is ++ (firstsOf ms (l.getD i noF) bound ms.length).map fun j : Nat => ((i : Int), (j : Int)) := by simp [nextI]
theorem miss_yes {n : Nat} {p : SL} (h : usedB p (n : Int) = false) : miss (n + 1) p = miss n p ++ [n] := by
  unfold miss
  rw [List.range_succ, List.filter_append]
  simp [h]
theorem miss_no {n : Nat} {p : SL} (h : usedB p (n : Int) = true) : miss (n + 1) p = miss n p := by
  unfold miss
  rw [List.range_succ, List.filter_append]
  simp [h]
theorem miss_len (n : Nat) (p : SL) : (miss n p).length ≤ n := by
  have := List.length_filter_le (fun i : Nat => !usedB p (i : Int)) (List.range n)
  simpa [miss] using this
theorem miss_mem {n : Nat} {p : SL} {i : Nat} : i ∈ miss n p ↔ i < n ∧ usedB p (i : Int) = false := by simp [miss]
theorem firstsOf_len (ms : ML) (a : Int × List Int) (bound : List Int) (n : Nat) : (firstsOf ms a bound n).length ≤ n := by
  have := List.length_filter_le (fun j : Nat => canM (ms.getD j noM) a bound) (List.range n)
  simpa [firstsOf] using this
theorem nextI_len (ms : ML) (l : FL) (bound : List Int) : ∀ is : List Nat, (nextI ms l bound is).length ≤ is.length * ms.length
  | [] => by simp [nextI]
  | i :: is => by
    have h1 := nextI_len ms l bound is
    have h2 := firstsOf_len ms (l.getD i noF) bound ms.length
    have h3 : (nextI ms l bound (i :: is)).length = (firstsOf ms (l.getD i noF) bound ms.length).length + (nextI ms l bound is).length := by
      show (List.flatMap _ (i :: is)).length = _
      rw [List.flatMap_cons, List.length_append, List.length_map]
      rfl
    rw [h3, List.length_cons, Nat.add_mul, Nat.one_mul]
    omega
theorem nextS_len (ms : ML) (l : FL) (p : SL) : (nextS ms l p).length ≤ l.length * ms.length :=
  Nat.le_trans (nextI_len ms l _ _) (Nat.mul_le_mul_right _ (miss_len _ _))

/-- Is the step possible behind p? -/
def stepOk (ms : ML) (l : FL) (p : SL) (st : Int × Int) : Bool := inB st.1 0 ((l.length : Int) - 1) && !usedB p st.1 && inB st.2 0 ((ms.length : Int) - 1) && canM (ms.getD st.2.toNat noM) (l.getD st.1.toNat noF) (bnd l p)
theorem nextS_mem (ms : ML) (l : FL) (p : SL) (a m : Int) : (a, m) ∈ nextS ms l p ↔ stepOk ms l p (a, m) = true := by
  unfold nextS nextI stepOk
  simp only [List.mem_flatMap, List.mem_map, Prod.mk.injEq, Bool.and_eq_true, Bool.not_eq_true', inB, decide_eq_true_eq, firstsOf, List.mem_filter, List.mem_range, miss_mem]
  constructor
  · rintro ⟨i, ⟨h1, h2⟩, j, ⟨h3, h4⟩, h5, h6⟩
    subst h5 h6
    refine ⟨⟨⟨⟨by omega, by omega⟩, h2⟩, by omega, by omega⟩, by simpa using h4⟩
  · rintro ⟨⟨⟨⟨h1, h2⟩, h3⟩, h4, h5⟩, h6⟩
    refine ⟨a.toNat, ⟨by omega, ?_⟩, m.toNat, ⟨by omega, h6⟩, by omega, by omega⟩
    rw [show ((a.toNat : Nat) : Int) = a by omega]
    exact h3

def ordN (ms : ML) (l : FL) (p : SL) (n : Nat) : Bool := (List.range n).all fun k => stepOk ms l (p.take k) (p.getD k (0, 0))
theorem ordN_succ (ms : ML) (l : FL) (p : SL) (k : Nat) : ordN ms l p (k + 1) = (ordN ms l p k && stepOk ms l (p.take k) (p.getD k (0, 0))) := by
  unfold ordN
  rw [List.range_succ, List.all_append]
  simp
theorem ordN_not (ms : ML) (l : FL) (p : SL) (k n : Nat) (hk : k < n) (h : stepOk ms l (p.take k) (p.getD k (0, 0)) = false) : ordN ms l p n = false := by
  unfold ordN
  rw [List.all_eq_false]
  exact ⟨k, by simpa using hk, by rw [h]; simp⟩
def ordB (s : List Int) (ms : ML) (hs : List Int) (l : FL) (p : SL) : Bool := aremB s ms && queryB s hs l && decide (p.length = l.length) && ordN ms l p p.length

theorem take_snoc (p : SL) {k : Nat} (hk : k < p.length) {st : Int × Int} (h : p.getD k (0, 0) = st) : p.take (k + 1) = p.take k ++ [st] := by
  rw [List.take_succ_eq_append_getElem hk]
  have : p[k] = p.getD k (0, 0) := by simp [List.getD_eq_getElem?_getD, hk]
  rw [this, h]

/-- One step more, the first possible one. -/
def stepG (ms : ML) (l : FL) (p : SL) : SL := p ++ (nextS ms l p).take 1
def gr (ms : ML) (l : FL) : Nat → SL
  | 0 => []
  | k + 1 => stepG ms l (gr ms l k)
theorem stepG_stuck {ms : ML} {l : FL} {p : SL} (h : nextS ms l p = []) : stepG ms l p = p := by simp [stepG, h]
theorem gr_stuck {ms : ML} {l : FL} {k : Nat} (h : nextS ms l (gr ms l k) = []) : ∀ j, gr ms l (k + j) = gr ms l k
  | 0 => rfl
  | j + 1 => by
    show stepG ms l (gr ms l (k + j)) = _
    rw [gr_stuck h j, stepG_stuck h]
theorem stepG_cons {ms : ML} {l : FL} {p : SL} {st : Int × Int} {r : SL} (h : nextS ms l p = st :: r) : stepG ms l p = p ++ [st] := by simp [stepG, h]

theorem filter_one {α : Type} [DecidableEq α] : ∀ (xs : List α) (P : α → Bool) (a : α), xs.Nodup → a ∈ xs → P a = true → (xs.filter fun x => P x && !decide (x = a)).length + 1 = (xs.filter P).length
  | [], _, _, _, h, _ => by cases h
  | x :: xs, P, a, hn, hm, hp => by
    have hn' := List.nodup_cons.1 hn
    by_cases e : x = a
    · subst e
      have hrest : xs.filter (fun y => P y && !decide (y = x)) = xs.filter P := List.filter_congr fun y hy => by
        have : y ≠ x := fun e => hn'.1 (e ▸ hy)
        simp [this]
      simp [List.filter_cons, hp, hrest]
    · have hm' : a ∈ xs := by
        rcases List.mem_cons.1 hm with h | h
        · exact absurd h.symm e
        · exact h
      have ih := filter_one xs P a hn'.2 hm' hp
      by_cases hx : P x = true
      · simp [List.filter_cons, hx, e]
        simpa using ih
      · have hx' : P x = false := by simpa using hx
        simp [List.filter_cons, hx']
        simpa using ih
theorem miss_step {n : Nat} {p : SL} {a m : Int} (h0 : 0 ≤ a) (h1 : a < n) (hu : usedB p a = false) : (miss n (p ++ [(a, m)])).length + 1 = (miss n p).length := by
  have := filter_one (List.range n) (fun i : Nat => !usedB p (i : Int)) a.toNat List.nodup_range (by simp; omega) (by rw [show ((a.toNat : Nat) : Int) = a by omega, hu]; rfl)
  rw [← miss] at this
  rw [← this]
  congr 2
  unfold miss
  refine List.filter_congr fun i _ => ?_
  rw [usedB_snoc, Bool.not_or]
  congr 2
  simp only [decide_eq_decide]
  omega
/-- Steps so far and atoms without one: all atoms. -/
def FullM (l : FL) (p : SL) : Prop := p.length + (miss l.length p).length = l.length
theorem miss_nil (n : Nat) : miss n [] = List.range n := by
  unfold miss
  rw [List.filter_eq_self]
  intro i _
  rfl
theorem FullM.nil (l : FL) : FullM l [] := by unfold FullM; rw [miss_nil]; simp
theorem FullM.snoc {ms : ML} {l : FL} {p : SL} {a m : Int} (h : FullM l p) (hs : stepOk ms l p (a, m) = true) : FullM l (p ++ [(a, m)]) := by
  unfold stepOk at hs
  simp only [Bool.and_eq_true, Bool.not_eq_true', inB, decide_eq_true_eq] at hs
  have := miss_step (m := m) (p := p) (n := l.length) hs.1.1.1.1 (by omega) hs.1.1.2
  unfold FullM at h ⊢
  rw [List.length_append, List.length_singleton]
  omega
theorem FullM.next {ms : ML} {l : FL} {p : SL} (h : FullM l p) (hs : p.length = l.length) : nextS ms l p = [] := by
  have : (miss l.length p).length = 0 := by unfold FullM at h; omega
  rw [List.length_eq_zero_iff] at this
  unfold nextS
  rw [this]
  rfl
theorem FullM.lt {ms : ML} {l : FL} {p : SL} (h : FullM l p) (hs : nextS ms l p ≠ []) : p.length < l.length := by
  rcases Nat.lt_or_ge p.length l.length with h1 | h1
  · exact h1
  · exact absurd (h.next (by unfold FullM at h; omega)) hs
theorem gr_full (ms : ML) (l : FL) : ∀ k, FullM l (gr ms l k)
  | 0 => FullM.nil l
  | k + 1 => by
    have ih := gr_full ms l k
    show FullM l (stepG ms l (gr ms l k))
    rcases h : nextS ms l (gr ms l k) with _ | ⟨⟨a, m⟩, r⟩
    · rw [stepG_stuck h]; exact ih
    · rw [stepG_cons h]
      exact ih.snoc ((nextS_mem ms l _ a m).1 (by rw [h]; simp))
theorem gr_len (ms : ML) (l : FL) (k : Nat) : (gr ms l k).length ≤ l.length := by
  have := gr_full ms l k
  unfold FullM at this
  omega
theorem gr_le (ms : ML) (l : FL) : ∀ k, (gr ms l k).length ≤ k
  | 0 => Nat.le_refl _
  | k + 1 => by
    have ih := gr_le ms l k
    show (stepG ms l (gr ms l k)).length ≤ _
    unfold stepG
    rw [List.length_append, List.length_take]
    omega
/-- Nothing is possible behind as many steps as there are atoms. -/
theorem gr_end (ms : ML) (l : FL) : nextS ms l (gr ms l l.length) = [] := by
  have key : ∀ k, (gr ms l k).length = k ∨ nextS ms l (gr ms l k) = [] := by
    intro k
    induction k with
    | zero => exact .inl rfl
    | succ k ih =>
      rcases h : nextS ms l (gr ms l k) with _ | ⟨st, r⟩
      · right
        show nextS ms l (stepG ms l (gr ms l k)) = []
        rw [stepG_stuck h, h]
      · rcases ih with ih | ih
        · left
          show (stepG ms l (gr ms l k)).length = _
          rw [stepG_cons h, List.length_append, ih]
          rfl
        · rw [ih] at h; cases h
  rcases key l.length with h | h
  · exact (gr_full ms l _).next h
  · exact h
def firstS (ms : ML) (l : FL) : SL := gr ms l l.length
theorem gr_stop {ms : ML} {l : FL} {k : Nat} (hk : k ≤ l.length) (h : nextS ms l (gr ms l k) = []) : gr ms l k = firstS ms l := by
  have := gr_stuck h (l.length - k)
  rw [show k + (l.length - k) = l.length by omega] at this
  exact this.symm
theorem stepOk_rng {ms : ML} {l : FL} {p : SL} {a m : Int} (h : stepOk ms l p (a, m) = true) : 0 ≤ a ∧ a < l.length ∧ 0 ≤ m ∧ m < ms.length := by
  unfold stepOk at h
  simp only [Bool.and_eq_true, Bool.not_eq_true', inB, decide_eq_true_eq] at h
  omega
/-- All atoms of the steps exist. -/
def InP (l : FL) (ms : ML) (p : SL) : Prop := ∀ st ∈ p, 0 ≤ st.1 ∧ st.1 < l.length ∧ 0 ≤ st.2 ∧ st.2 < ms.length
theorem InP.nil (l : FL) (ms : ML) : InP l ms [] := fun st h => by cases h
theorem InP.snoc {l : FL} {ms : ML} {p : SL} {a m : Int} (h : InP l ms p) (hs : stepOk ms l p (a, m) = true) : InP l ms (p ++ [(a, m)]) := fun st hst => by
  rcases List.mem_append.1 hst with h1 | h1
  · exact h st h1
  · simp only [List.mem_singleton] at h1
    subst h1
    exact stepOk_rng hs
theorem InP.at_ {l : FL} {ms : ML} {p : SL} (h : InP l ms p) {k : Nat} (hk : k < p.length) {a m : Int} (hf : p.getD k (0, 0) = (a, m)) : 0 ≤ a ∧ a < l.length ∧ 0 ≤ m ∧ m < ms.length := by
  have : (a, m) ∈ p := by
    rw [← hf, List.getD_eq_getElem?_getD, List.getElem?_eq_getElem hk]
    exact List.getElem_mem _
  exact h _ this
theorem gr_in (ms : ML) (l : FL) : ∀ k, InP l ms (gr ms l k)
  | 0 => InP.nil l ms
  | k + 1 => by
    have ih := gr_in ms l k
    show InP l ms (stepG ms l (gr ms l k))
    rcases h : nextS ms l (gr ms l k) with _ | ⟨⟨a, m⟩, r⟩
    · rw [stepG_stuck h]; exact ih
    · rw [stepG_cons h]
      exact ih.snoc ((nextS_mem ms l _ a m).1 (by rw [h]; simp))

/-- A step's cost. -/
def costOf (ms : ML) (m : Int) : Int := if inB m 0 ((ms.length : Int) - 1) && inB (ms.getD m.toNat noM).2.2.2.1 0 99 then (ms.getD m.toNat noM).2.2.2.1 else 0
theorem costOf_rng (ms : ML) (m : Int) : 0 ≤ costOf ms m ∧ costOf ms m ≤ 99 := by
  unfold costOf
  split
  · rename_i h
    simp only [Bool.and_eq_true, inB, decide_eq_true_eq] at h
    omega
  · omega
def costN (ms : ML) (p : SL) : Int := (p.map fun st => costOf ms st.2).sum
theorem costN_take (ms : ML) (p : SL) {k : Nat} (hk : k < p.length) {a m : Int} (hf : p.getD k (0, 0) = (a, m)) : costN ms (p.take (k + 1)) = costN ms (p.take k) + costOf ms m := by
  unfold costN
  rw [take_snoc p hk hf, List.map_append, List.sum_append]
  simp
theorem costN_rng (ms : ML) : ∀ p : SL, 0 ≤ costN ms p ∧ costN ms p ≤ 99 * (p.length : Int)
  | [] => by simp [costN]
  | st :: p => by
    have h1 := costN_rng ms p
    have h2 := costOf_rng ms st.2
    have e : costN ms (st :: p) = costOf ms st.2 + costN ms p := by simp [costN]
    rw [e, List.length_cons]
    omega
end Go.Proofs.Ytighalbnpgmdfaa
