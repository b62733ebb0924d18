/- What matching an atom with a fact gives: plain lists. Conditions: none beyond each theorem's own. -/
import Derived.Test.YtighalbnpgmdfaaGreatVal
namespace Go.Proofs.YtighalbnpgmdfaaGreat
open Go.ChangeShapes Go.WideShapes Go.ChangeAt Go.RowKit Go.Sort
set_option linter.unusedVariables false
set_option linter.unusedSimpArgs false

abbrev PL := List Int × List Int
/-- One term against one value. -/
def mst (p : PL) (t v : Int) : Option PL :=
  if inB t 10 17 = true then (if t ∈ p.1 then (if bval p.1 p.2 t = v then some p else none) else some (p.1 ++ [t], p.2 ++ [v])) else (if t = v then some p else none)
def mgo (p : PL) : List Int → List Int → Option PL
  | t :: ts, v :: vs => (mst p t v).bind fun q => mgo q ts vs
  | _, _ => some p
theorem mgo_nil (p : PL) (vs : List Int) : mgo p [] vs = some p := by cases vs <;> rfl
theorem mgo_append : ∀ (ts vs : List Int) (p : PL) (ts' vs' : List Int), ts.length = vs.length → mgo p (ts ++ ts') (vs ++ vs') = (mgo p ts vs).bind fun q => mgo q ts' vs'
  | [], [], p, ts', vs', _ => by simp [mgo_nil]
  | [], _ :: _, _, _, _, h => by simp at h
  | _ :: _, [], _, _, _, h => by simp at h
  | t :: ts, v :: vs, p, ts', vs', h => by
    have hl : ts.length = vs.length := by simpa using h
    show (mst p t v).bind (fun q => mgo q (ts ++ ts') (vs ++ vs')) = ((mst p t v).bind fun q => mgo q ts vs).bind fun q => mgo q ts' vs'
    cases mst p t v with
    | none => rfl
    | some q => exact mgo_append ts vs q ts' vs' hl
theorem split_at (l : List Int) {k : Nat} (hk : k < l.length) {x : Int} (hx : l.getD k 0 = x) : l = l.take k ++ x :: l.drop (k + 1) := by
  have e : l[k] = x := by rw [← hx]; simp [List.getD_eq_getElem?_getD, hk]
  rw [← e, List.getElem_cons_drop, List.take_append_drop]
theorem mgo_step {ts vs : List Int} (hl : ts.length = vs.length) {k : Nat} (hk : k < ts.length) {t v : Int} (ht : ts.getD k 0 = t) (hv : vs.getD k 0 = v) {p0 p : PL} (h : mgo p0 (ts.take k) (vs.take k) = some p) :
    mgo p0 (ts.take (k + 1)) (vs.take (k + 1)) = mst p t v := by
  rw [takeI' ts hk ht, takeI' vs (by omega) hv, mgo_append _ _ _ _ _ (by rw [List.length_take, List.length_take]; omega), h]
  show ((mst p t v).bind fun q => mgo q [] []) = _
  cases mst p t v <;> rfl
theorem mgo_fail {ts vs : List Int} (hl : ts.length = vs.length) {k : Nat} (hk : k < ts.length) {t v : Int} (ht : ts.getD k 0 = t) (hv : vs.getD k 0 = v) {p0 p : PL} (h : mgo p0 (ts.take k) (vs.take k) = some p) (hm : mst p t v = none) :
    mgo p0 ts vs = none := by
  rw [split_at ts hk ht, split_at vs (by omega) hv, mgo_append _ _ _ _ _ (by rw [List.length_take, List.length_take]; omega), h]
  show (mst p t v).bind _ = none
  rw [hm]
  rfl
/-- The value of a place of a binding. -/
def pval (p : PL) (t : Int) : Int := p.2.getD (p.1.idxOf t) 0
theorem bval_mem {p : PL} (hl : p.1.length = p.2.length) {t : Int} (h : inB t 10 17 = true) (hm : t ∈ p.1) : bval p.1 p.2 t = pval p t := by
  have := List.idxOf_lt_length_iff.2 hm
  simp [bval, pval, h, this, ← hl]
theorem pval_old {p : PL} (hl : p.1.length = p.2.length) {t : Int} (hm : t ∈ p.1) (x v : Int) : pval (p.1 ++ [x], p.2 ++ [v]) t = pval p t := by
  have h1 := List.idxOf_lt_length_iff.2 hm
  simp only [pval]
  rw [List.idxOf_append, if_pos hm, List.getD_eq_getElem?_getD, List.getElem?_append_left (by omega), ← List.getD_eq_getElem?_getD]
theorem pval_new {p : PL} (hl : p.1.length = p.2.length) {t : Int} (hm : t ∉ p.1) (v : Int) : pval (p.1 ++ [t], p.2 ++ [v]) t = v := by
  simp only [pval]
  rw [List.idxOf_append, if_neg hm]
  simp [List.getD_eq_getElem?_getD, hl]
theorem mst_len {p q : PL} {t v : Int} (h : mst p t v = some q) (hl : p.1.length = p.2.length) : q.1.length = q.2.length ∧ p.1.length ≤ q.1.length ∧ q.1.length ≤ p.1.length + 1 := by
  unfold mst at h
  split at h
  · split at h
    · split at h
      · injection h with h; subst h; exact ⟨hl, by omega, by omega⟩
      · cases h
    · injection h with h; subst h; simp [hl]
  · split at h
    · injection h with h; subst h; exact ⟨hl, by omega, by omega⟩
    · cases h
theorem mgo_len : ∀ (ts vs : List Int) (p q : PL), mgo p ts vs = some q → p.1.length = p.2.length → q.1.length = q.2.length ∧ p.1.length ≤ q.1.length ∧ q.1.length ≤ p.1.length + ts.length
  | [], vs, p, q, h, hl => by rw [mgo_nil] at h; injection h with h; subst h; exact ⟨hl, by omega, by simp⟩
  | t :: ts, [], p, q, h, hl => by injection h with h; subst h; exact ⟨hl, by omega, by omega⟩
  | t :: ts, v :: vs, p, q, h, hl => by
    change (mst p t v).bind _ = _ at h
    cases hm : mst p t v with
    | none => rw [hm] at h; cases h
    | some r =>
      rw [hm] at h
      have h1 := mst_len hm hl
      have h2 := mgo_len ts vs r q h h1.1
      rw [List.length_cons]
      exact ⟨h2.1, by omega, by omega⟩
/-- What MatchAtom gives. -/
def matB (p : PL) (r : Int) (ts : List Int) (r' : Int) (vs : List Int) : Option PL :=
  if r = r' ∧ ts.length = vs.length ∧ p.1.length = p.2.length then mgo p ts vs else none
end Go.Proofs.YtighalbnpgmdfaaGreat
