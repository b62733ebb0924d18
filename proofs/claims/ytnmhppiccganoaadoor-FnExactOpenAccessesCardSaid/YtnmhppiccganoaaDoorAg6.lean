/- Ascending lists of numbers: the model's insertion. Conditions: none beyond each theorem's own. Bindings in memory: their size, their copy, their comparison by the law. Conditions: none beyond each theorem's own. What the two functions ValueOf answer. Conditions: none beyond each theorem's own. What matching an atom with a fact gives: plain lists. Conditions: none beyond each theorem's own. A matching in memory: its map, its list of added variables, and one term against one value. Conditions: none beyond each theorem's own. What match and startMatching leave. Conditions: none beyond each theorem's own. What startMatching leaves. Conditions: none beyond each theorem's own. A drawn region by an invariant over what is listed. Conditions: none beyond each theorem's own. -/
import Derived.Test.YtnmhppiccganoaaDoorAg5
import Derived.Test.YtnmhppiccganoaaDoorEqList
import Derived.Lib.QuietBelow
import Derived.Test.YtnmhppiccganoaaDoorClone
import Derived.Test.YtnmhppiccganoaaDoorAg4
import Derived.Maps.OwnSet
import Derived.RegionTactic

namespace Go.Proofs.YtnmhppiccganoaaDoor
open Go.ChangeShapes Go.WideShapes Go.ChangeAt Go.RowKit Go.Sort
open Go.Deep (BT)
set_option linter.unusedVariables false
set_option linter.unusedSimpArgs false

/-- x is laid ahead of the first greater number. -/
def insG : List Int → Int → List Int
  | [], x => [x]
  | y :: ys, x => if x < y then x :: y :: ys else y :: insG ys x
/-- x is added, once. -/
def putI (l : List Int) (x : Int) : List Int := if x ∈ l then l else insG l x
def Asc (l : List Int) : Prop := l.Pairwise (· < ·)
theorem putI_yes {l : List Int} {x : Int} (h : x ∈ l) : putI l x = l := if_pos h
theorem putI_no {l : List Int} {x : Int} (h : x ∉ l) : putI l x = insG l x := if_neg h
theorem insG_len : ∀ (l : List Int) (x : Int), (insG l x).length = l.length + 1
  | [], x => rfl
  | y :: ys, x => by
    unfold insG
    split
    · simp
    · simp [insG_len ys x]
theorem putI_len (l : List Int) (x : Int) : (putI l x).length ≤ l.length + 1 := by
  unfold putI
  split
  · omega
  · rw [insG_len]; omega
theorem insG_mem : ∀ (l : List Int) (x b : Int), b ∈ insG l x ↔ b = x ∨ b ∈ l
  | [], x, b => by simp [insG]
  | y :: ys, x, b => by
    unfold insG
    split
    · simp
    · simp only [List.mem_cons, insG_mem ys x b]
      constructor
      · rintro (h | h | h)
        · exact .inr (.inl h)
        · exact .inl h
        · exact .inr (.inr h)
      · rintro (h | h | h)
        · exact .inr (.inl h)
        · exact .inl h
        · exact .inr (.inr h)
theorem putI_mem (l : List Int) (x b : Int) : b ∈ putI l x ↔ b = x ∨ b ∈ l := by
  unfold putI
  split
  · rename_i h
    constructor
    · exact fun hb => .inr hb
    · rintro (rfl | hb)
      · exact h
      · exact hb
  · exact insG_mem l x b
theorem insG_asc : ∀ (l : List Int) (x : Int), Asc l → x ∉ l → Asc (insG l x)
  | [], x, _, _ => by simp [insG, Asc]
  | y :: ys, x, h, hx => by
    have h1 : (∀ b ∈ ys, y < b) ∧ Asc ys := by simpa [Asc, List.pairwise_cons] using h
    simp only [List.mem_cons, not_or] at hx
    unfold insG
    split
    · rename_i hlt
      refine List.pairwise_cons.2 ⟨fun b hb => ?_, h⟩
      rcases List.mem_cons.1 hb with rfl | hb
      · exact hlt
      · exact Int.lt_trans hlt (h1.1 b hb)
    · rename_i hge
      refine List.pairwise_cons.2 ⟨fun b hb => ?_, insG_asc ys x h1.2 hx.2⟩
      rcases (insG_mem ys x b).1 hb with rfl | hb
      · have := hx.1; omega
      · exact h1.1 b hb
theorem putI_asc {l : List Int} {x : Int} (h : Asc l) : Asc (putI l x) := by
  unfold putI
  split
  · exact h
  · rename_i hx
    exact insG_asc l x h hx
theorem insG_left (y : Int) (ys : List Int) (x : Int) (h : x < y) : ∀ l : List Int, insG (l ++ y :: ys) x = insG l x ++ y :: ys
  | [] => by simp [insG, h]
  | a :: l => by
    simp only [List.cons_append, insG]
    split
    · rfl
    · rw [insG_left y ys x h l]; rfl
theorem insG_right (ys : List Int) (x : Int) : ∀ l : List Int, (∀ a ∈ l, ¬ x < a) → insG (l ++ ys) x = l ++ insG ys x
  | [], _ => rfl
  | a :: l, h => by
    simp only [List.cons_append, insG]
    rw [if_neg (h a (by simp)), insG_right ys x l fun b hb => h b (by simp [hb])]
theorem insG_some (ys : List Int) (x : Int) : ∀ l : List Int, (∃ a ∈ l, x < a) → insG (l ++ ys) x = insG l x ++ ys
  | [], h => by obtain ⟨_, h, _⟩ := h; simp at h
  | a :: l, h => by
    simp only [List.cons_append, insG]
    split
    · rfl
    · rename_i hn
      rw [insG_some ys x l ?_]
      · rfl
      · obtain ⟨b, hb, hlt⟩ := h
        rcases List.mem_cons.1 hb with rfl | hb
        · exact absurd hlt hn
        · exact ⟨b, hb, hlt⟩

/-- An addition to a tree whose numbers ascend. -/
theorem putT_eq : ∀ (t : BT Int) (x : Int), Asc (tl t) → putT t x = putI (tl t) x
  | .nil, x, _ => by simp [putT, tl, putI, insG]
  | .node a o y l r, x, h => by
    have h0 : Asc (tl l) ∧ (∀ b ∈ tl r, y < b) ∧ Asc (tl r) ∧ (∀ a ∈ tl l, ∀ b ∈ y :: tl r, a < b) := by
      simp only [tl, Asc, List.pairwise_append, List.pairwise_cons] at h
      exact ⟨h.1, h.2.1.1, h.2.1.2, h.2.2⟩
    obtain ⟨h1, h2, h3, h4⟩ := h0
    show (if x < y then putT l x ++ y :: tl r else if y < x then tl l ++ y :: putT r x else tl l ++ y :: tl r) = putI (tl l ++ y :: tl r) x
    by_cases c1 : x < y
    · rw [if_pos c1, putT_eq l x h1]
      have hr : x ∉ tl r := fun hx => by have := h2 x hx; omega
      by_cases hx : x ∈ tl l
      · rw [putI_yes hx, putI_yes (by simp [hx])]
      · rw [putI_no hx, putI_no (by simp only [List.mem_append, List.mem_cons, not_or]; exact ⟨hx, by omega, hr⟩), insG_left y _ x c1]
    · rw [if_neg c1]
      have hl : ∀ a ∈ tl l, a < y := fun a ha => h4 a ha y (by simp)
      by_cases c2 : y < x
      · rw [if_pos c2, putT_eq r x h3]
        have hxl : x ∉ tl l := fun hx => by have := hl x hx; omega
        have hle : ∀ a ∈ tl l, ¬ x < a := fun a ha => by have := hl a ha; omega
        by_cases hx : x ∈ tl r
        · rw [putI_yes hx, putI_yes (by simp [hx])]
        · rw [putI_no hx, putI_no (by simp only [List.mem_append, List.mem_cons, not_or]; exact ⟨hxl, by omega, hx⟩), insG_right _ x (tl l) hle]
          simp only [insG]
          rw [if_neg (show ¬ x < y by omega)]
      · rw [if_neg c2, putI_yes (by simp [show x = y by omega])]

/-- Where the model's loop stands. -/
def PutSt (v : List Int) (x : Int) (k : Nat) (pb : Bool) (out : List Int) : Prop :=
  (pb = false → out = v.take k ∧ ∀ y ∈ v.take k, ¬ x < y) ∧ (pb = true → out = insG (v.take k) x ∧ ∃ y ∈ v.take k, x < y)
theorem PutSt.start (v : List Int) (x : Int) : PutSt v x 0 false [] := ⟨fun _ => ⟨by simp, by simp⟩, fun h => by cases h⟩
theorem takeI (v : List Int) {k : Nat} (hk : k < v.length) {z : Int} (hz : v.getD k 0 = z) : v.take (k + 1) = v.take k ++ [z] := by
  rw [List.take_succ_eq_append_getElem hk]
  subst hz
  simp [List.getD_eq_getElem?_getD, hk]
theorem PutSt.push {v : List Int} {x : Int} {k : Nat} {pb : Bool} {out : List Int} (h : PutSt v x k pb out) (hk : k < v.length) {z : Int} (hz : v.getD k 0 = z) (hp : pb = true ∨ ¬ x < z) : PutSt v x (k + 1) pb (out ++ [z]) := by
  have hT := takeI v hk hz
  refine ⟨fun hb => ?_, fun hb => ?_⟩
  · obtain ⟨h1, h2⟩ := h.1 hb
    rw [hT, h1]
    refine ⟨rfl, fun y hy => ?_⟩
    rcases List.mem_append.1 hy with hy | hy
    · exact h2 y hy
    · simp at hy
      subst hy
      rcases hp with hp | hp
      · rw [hb] at hp; cases hp
      · exact hp
  · obtain ⟨h1, h2⟩ := h.2 hb
    rw [hT, h1]
    refine ⟨(insG_some [z] x _ h2).symm, ?_⟩
    obtain ⟨y, hy, hlt⟩ := h2
    exact ⟨y, List.mem_append_left _ hy, hlt⟩
theorem PutSt.place {v : List Int} {x : Int} {k : Nat} {out : List Int} (h : PutSt v x k false out) (hk : k < v.length) {z : Int} (hz : v.getD k 0 = z) (hp : x < z) : PutSt v x (k + 1) true (out ++ [x] ++ [z]) := by
  have hT := takeI v hk hz
  obtain ⟨h1, h2⟩ := h.1 rfl
  refine ⟨fun hb => (by cases hb), fun _ => ?_⟩
  rw [hT, h1, insG_right [z] x _ h2]
  simp only [insG]
  rw [if_pos hp]
  exact ⟨by simp, z, by simp, hp⟩
theorem PutSt.done {v : List Int} {x : Int} {out : List Int} (h : PutSt v x v.length true out) : out = insG v x := by
  have := (h.2 rfl).1
  rwa [take_all] at this
theorem PutSt.last {v : List Int} {x : Int} {out : List Int} (h : PutSt v x v.length false out) : out ++ [x] = insG v x := by
  obtain ⟨h1, h2⟩ := h.1 rfl
  rw [take_all] at h1 h2
  have := insG_right [] x v h2
  rw [List.append_nil] at this
  rw [h1, this]
  rfl
theorem PutSt.len {v : List Int} {x : Int} {k : Nat} {pb : Bool} {out : List Int} (h : PutSt v x k pb out) : out.length ≤ k + 1 := by
  cases pb
  · rw [(h.1 rfl).1, List.length_take]; omega
  · rw [(h.2 rfl).1, insG_len, List.length_take]; omega

/-- A list that was made since block lo, or lay there. -/
def PutO (w : World) (lo : Nat) (xs : List Int) (e : Ending) (w' : World) : Prop := ∃ A c, e = .returned (.slice A xs.length c) ∧ Ints w' lo w'.heap.size A xs ∧ Below w.heap.size w w'
theorem ints_own {w : World} {base lo : Nat} {A : Option Addr} {c : Nat} {xs : List Int} (h : w.ownsRow base 3 1 (.slice A xs.length c) xs.length (xs.map (Value.int .i64))) (hlo : lo ≤ base) : Ints w lo w.heap.size A xs := by
  obtain ⟨q, hv⟩ := ownV_of_row h
  exact (hv.ints).2.2.2.mono hlo (Nat.le_refl _)

end Go.Proofs.YtnmhppiccganoaaDoor

namespace Go.Proofs.YtnmhppiccganoaaDoor
open Go.ChangeShapes Go.WideShapes Go.ChangeAt Go.RowKit
set_option linter.unusedVariables false
set_option linter.unusedSimpArgs false

section
variable {H : Type} {enc : TypeId × Value → H} {w : World}
end

/-- How many values a binding holds. -/
def szB (hs l : List Int) : Int := (hs.length : Int) + (l.length : Int)

/-- A binding of the call's own: its variables in block g, its values in block g + 1. -/
def BX (w : World) (g : Nat) (hs l : List Int) : Prop := Row w g hs ∧ Row w (g + 1) l
theorem BX.step {w w' : World} {g : Nat} {hs l : List Int} (h : BX w g hs l) (b : Below w.heap.size w w') : BX w' g hs l :=
  ⟨h.1.of_block (b.block _ (World.rowIs.lt h.1)), h.2.of_block (b.block _ (World.rowIs.lt h.2))⟩
theorem BX.ri {w : World} {g : Nat} {hs l : List Int} (h : BX w g hs l) : RI w (some ⟨g, 0, none⟩) hs := h.1.ri
theorem BX.rv {w : World} {g : Nat} {hs l : List Int} (h : BX w g hs l) : RI w (some ⟨g + 1, 0, none⟩) l := h.2.ri

end Go.Proofs.YtnmhppiccganoaaDoor

namespace Go.Proofs.YtnmhppiccganoaaDoor
open Go.ChangeShapes Go.WideShapes Go.ChangeAt Go.RowKit Go.Sort
set_option linter.unusedVariables false
set_option linter.unusedSimpArgs false

theorem takeI' (v : List Int) {k : Nat} (h : k < v.length) {x : Int} (hx : v.getD k 0 = x) : v.take (k + 1) = v.take k ++ [x] := by
  rw [List.take_succ_eq_append_getElem h]
  have : v[k] = v.getD k 0 := by simp [List.getD_eq_getElem?_getD, h]
  rw [this, hx]
theorem idx_ge : ∀ (hs : List Int) (t : Int) (k : Nat), k ≤ hs.length → t ∉ hs.take k → k ≤ hs.idxOf t
  | _, _, 0, _, _ => Nat.zero_le _
  | [], _, k + 1, h, _ => by simp at h
  | x :: xs, t, k + 1, h, hn => by
    rw [List.take_succ_cons] at hn
    have h1 : ¬ t = x := fun e => hn (by rw [e]; exact List.mem_cons_self)
    have h2 := idx_ge xs t k (by simpa using h) (fun hm => hn (List.mem_cons_of_mem _ hm))
    rw [List.idxOf_cons]
    have e : (x == t) = false := by simpa using fun e => h1 e.symm
    rw [e]
    simp only [cond_false]
    omega
theorem idx_at : ∀ (hs : List Int) (t : Int) (k : Nat), k < hs.length → t ∉ hs.take k → hs.getD k 0 = t → hs.idxOf t = k
  | [], _, k, h, _, _ => by simp at h
  | x :: xs, t, 0, _, _, he => by
    have : x = t := by simpa using he
    subst this
    simp
  | x :: xs, t, k + 1, h, hn, he => by
    rw [List.take_succ_cons] at hn
    have h1 : ¬ t = x := fun e => hn (by rw [e]; exact List.mem_cons_self)
    have h2 := idx_at xs t k (by simpa using h) (fun hm => hn (List.mem_cons_of_mem _ hm)) (by simpa using he)
    rw [List.idxOf_cons]
    have e : (x == t) = false := by simpa using fun e => h1 e.symm
    rw [e]
    simp only [cond_false]
    omega

/-- What a term is worth under the binding of hs to l. -/
def bval (hs l : List Int) (t : Int) : Int :=
  if inB t 10 17 = true then (if hs.idxOf t < hs.length ∧ hs.idxOf t < l.length then l.getD (hs.idxOf t) 0 else -1) else t
theorem bval_no {hs l : List Int} {t : Int} (h : inB t 10 17 = false) : bval hs l t = t := by simp [bval, h]
theorem bval_at {hs l : List Int} {t : Int} (h : inB t 10 17 = true) {k : Nat} (h1 : k < hs.length) (h2 : k < l.length) (h3 : t ∉ hs.take k) (h4 : hs.getD k 0 = t) : bval hs l t = l.getD k 0 := by
  have e := idx_at hs t k h1 h3 h4
  simp [bval, h, e, h1, h2]
theorem bval_none {hs l : List Int} {t : Int} (h : inB t 10 17 = true) {k : Nat} (h1 : k ≤ hs.length) (h3 : t ∉ hs.take k) (h2 : hs.length ≤ k ∨ l.length ≤ k) : bval hs l t = -1 := by
  have e := idx_ge hs t k h1 h3
  have : ¬ (hs.idxOf t < hs.length ∧ hs.idxOf t < l.length) := by omega
  simp [bval, h, this]
theorem notMem_snoc {hs : List Int} {t x : Int} {k : Nat} (hk : k < hs.length) (h3 : t ∉ hs.take k) (hx : hs.getD k 0 = x) (hne : ¬ x = t) : t ∉ hs.take (k + 1) := by
  rw [takeI' hs hk hx]
  simp only [List.mem_append, List.mem_singleton, not_or]
  exact ⟨h3, fun e => hne e.symm⟩

/-- The first place of x in v, or -1. -/
def idxI (v : List Int) (x : Int) : Int := if v.idxOf x < v.length then (v.idxOf x : Int) else -1
end Go.Proofs.YtnmhppiccganoaaDoor

namespace Go.Proofs.YtnmhppiccganoaaDoor
open Go.ChangeShapes Go.WideShapes Go.ChangeAt Go.RowKit Go.Sort
set_option linter.unusedVariables false
set_option linter.unusedSimpArgs false

abbrev PL := List Int × List Int
/-- One term against one value. -/
def mst (p : PL) (t v : Int) : Option PL :=
  if inB t 10 17 = true then (if t ∈ p.1 then (if bval p.1 p.2 t = v then some p else none) else some (p.1 ++ [t], p.2 ++ [v])) else (if t = v then some p else none)
def mgo (p : PL) : List Int → List Int → Option PL
  | t :: ts, v :: vs => (mst p t v).bind fun q => mgo q ts vs
  | _, _ => some p
theorem mgo_nil (p : PL) (vs : List Int) : mgo p [] vs = some p := by cases vs <;> rfl
theorem mgo_append : ∀ (ts vs : List Int) (p : PL) (ts' vs' : List Int), ts.length = vs.length → mgo p (ts ++ ts') (vs ++ vs') = (mgo p ts vs).bind fun q => mgo q ts' vs'
  | [], [], p, ts', vs', _ => by simp [mgo_nil]
  | [], _ :: _, _, _, _, h => by simp at h
  | _ :: _, [], _, _, _, h => by simp at h
  | t :: ts, v :: vs, p, ts', vs', h => by
    have hl : ts.length = vs.length := by simpa using h
    show (mst p t v).bind (fun q => mgo q (ts ++ ts') (vs ++ vs')) = ((mst p t v).bind fun q => mgo q ts vs).bind fun q => mgo q ts' vs'
    cases mst p t v with
    | none => rfl
    | some q => exact mgo_append ts vs q ts' vs' hl
theorem split_at (l : List Int) {k : Nat} (hk : k < l.length) {x : Int} (hx : l.getD k 0 = x) : l = l.take k ++ x :: l.drop (k + 1) := by
  have e : l[k] = x := by rw [← hx]; simp [List.getD_eq_getElem?_getD, hk]
  rw [← e, List.getElem_cons_drop, List.take_append_drop]
theorem mgo_step {ts vs : List Int} (hl : ts.length = vs.length) {k : Nat} (hk : k < ts.length) {t v : Int} (ht : ts.getD k 0 = t) (hv : vs.getD k 0 = v) {p0 p : PL} (h : mgo p0 (ts.take k) (vs.take k) = some p) :
    mgo p0 (ts.take (k + 1)) (vs.take (k + 1)) = mst p t v := by
  rw [takeI' ts hk ht, takeI' vs (by omega) hv, mgo_append _ _ _ _ _ (by rw [List.length_take, List.length_take]; omega), h]
  show ((mst p t v).bind fun q => mgo q [] []) = _
  cases mst p t v <;> rfl
theorem mgo_fail {ts vs : List Int} (hl : ts.length = vs.length) {k : Nat} (hk : k < ts.length) {t v : Int} (ht : ts.getD k 0 = t) (hv : vs.getD k 0 = v) {p0 p : PL} (h : mgo p0 (ts.take k) (vs.take k) = some p) (hm : mst p t v = none) :
    mgo p0 ts vs = none := by
  rw [split_at ts hk ht, split_at vs (by omega) hv, mgo_append _ _ _ _ _ (by rw [List.length_take, List.length_take]; omega), h]
  show (mst p t v).bind _ = none
  rw [hm]
  rfl
/-- The value of a place of a binding. -/
def pval (p : PL) (t : Int) : Int := p.2.getD (p.1.idxOf t) 0
theorem bval_mem {p : PL} (hl : p.1.length = p.2.length) {t : Int} (h : inB t 10 17 = true) (hm : t ∈ p.1) : bval p.1 p.2 t = pval p t := by
  have := List.idxOf_lt_length_iff.2 hm
  simp [bval, pval, h, this, ← hl]
theorem pval_old {p : PL} (hl : p.1.length = p.2.length) {t : Int} (hm : t ∈ p.1) (x v : Int) : pval (p.1 ++ [x], p.2 ++ [v]) t = pval p t := by
  have h1 := List.idxOf_lt_length_iff.2 hm
  simp only [pval]
  rw [List.idxOf_append, if_pos hm, List.getD_eq_getElem?_getD, List.getElem?_append_left (by omega), ← List.getD_eq_getElem?_getD]
theorem pval_new {p : PL} (hl : p.1.length = p.2.length) {t : Int} (hm : t ∉ p.1) (v : Int) : pval (p.1 ++ [t], p.2 ++ [v]) t = v := by
  simp only [pval]
  rw [List.idxOf_append, if_neg hm]
  simp [List.getD_eq_getElem?_getD, hl]
theorem mst_len {p q : PL} {t v : Int} (h : mst p t v = some q) (hl : p.1.length = p.2.length) : q.1.length = q.2.length ∧ p.1.length ≤ q.1.length ∧ q.1.length ≤ p.1.length + 1 := by
  unfold mst at h
  split at h
  · split at h
    · split at h
      · injection h with h; subst h; exact ⟨hl, by omega, by omega⟩
      · cases h
    · injection h with h; subst h; simp [hl]
  · split at h
    · injection h with h; subst h; exact ⟨hl, by omega, by omega⟩
    · cases h
theorem mgo_len : ∀ (ts vs : List Int) (p q : PL), mgo p ts vs = some q → p.1.length = p.2.length → q.1.length = q.2.length ∧ p.1.length ≤ q.1.length ∧ q.1.length ≤ p.1.length + ts.length
  | [], vs, p, q, h, hl => by rw [mgo_nil] at h; injection h with h; subst h; exact ⟨hl, by omega, by simp⟩
  | t :: ts, [], p, q, h, hl => by injection h with h; subst h; exact ⟨hl, by omega, by omega⟩
  | t :: ts, v :: vs, p, q, h, hl => by
    change (mst p t v).bind _ = _ at h
    cases hm : mst p t v with
    | none => rw [hm] at h; cases h
    | some r =>
      rw [hm] at h
      have h1 := mst_len hm hl
      have h2 := mgo_len ts vs r q h h1.1
      rw [List.length_cons]
      exact ⟨h2.1, by omega, by omega⟩
/-- What MatchAtom gives. -/
def matB (p : PL) (r : Int) (ts : List Int) (r' : Int) (vs : List Int) : Option PL :=
  if r = r' ∧ ts.length = vs.length ∧ p.1.length = p.2.length then mgo p ts vs else none
end Go.Proofs.YtnmhppiccganoaaDoor

namespace Go.Proofs.YtnmhppiccganoaaDoor
open Go.ChangeShapes Go.WideShapes Go.ChangeAt Go.RowKit Go.Sort
open Go.Maps (Keyed int_keyed keyOf_int_mk)
set_option linter.unusedVariables false
set_option linter.unusedSimpArgs false

set_option maxRecDepth 100000 in
theorem lawM : Keyed Tryd.prog 3 := int_keyed Tryd.underlying3
set_option maxRecDepth 100000 in
theorem zeroM (w : World) : (zeroValue 3).run Tryd.prog w = .ok (.int .i64 0) w := by kernel_rfl
/-- The key of a term. -/
abbrev kt (t : Int) : Lit := .int .i64 t
abbrev wf (t : Int) : Prop := (Lit.int .i64 t).wf = true
theorem kt_ne {a b : Int} (h : ¬ a = b) : kt a ≠ kt b := fun e => by injection e with _ e; exact h e

/-- Does the map read as the binding p? -/
def LK (D : DataW Unit) (p : PL) : Prop :=
  Maps.IsMap D ∧ ∀ t, Maps.has D (kt t) = decide (t ∈ p.1) ∧ (t ∈ p.1 → D.atKey (kt t) (.lit (.int .i64 0)) = .lit (.int .i64 (pval p t)))
theorem LK.put {D : DataW Unit} {p : PL} (h : LK D p) (hl : p.1.length = p.2.length) {t v : Int} (hn : t ∉ p.1) : LK (D.put (kt t) (.lit (.int .i64 v))) (p.1 ++ [t], p.2 ++ [v]) := by
  refine ⟨h.1.put _ _, fun x => ?_⟩
  by_cases e : x = t
  · subst e
    refine ⟨?_, fun _ => ?_⟩
    · rw [Maps.has_put_same h.1 (show WideAt.IsKeyLit (kt x) from trivial)]; simp
    · rw [Maps.atKey_put_same h.1 (show WideAt.IsKeyLit (kt x) from trivial), pval_new hl hn]
  · refine ⟨?_, fun hx => ?_⟩
    · rw [Maps.has_put_other (kt_ne e), (h.2 x).1]
      simp [e]
    · have hx' : x ∈ p.1 := by simpa [e] using hx
      rw [Maps.atKey_put_other (kt_ne e), (h.2 x).2 hx', pval_old hl hx']

/-- The variables ads were added to p0, which makes q. -/
def AD (p0 q : PL) (ads : List Int) : Prop := q.1 = p0.1 ++ ads ∧ q.2 = p0.2 ++ ads.map (pval q) ∧ q.1.length = q.2.length
theorem AD.start {p : PL} (h : p.1.length = p.2.length) : AD p p [] := ⟨by simp, by simp, h⟩
theorem AD.add {p0 q : PL} {ads : List Int} (h : AD p0 q ads) {t v : Int} (hn : t ∉ q.1) : AD p0 (q.1 ++ [t], q.2 ++ [v]) (ads ++ [t]) := by
  obtain ⟨h1, h2, h3⟩ := h
  refine ⟨by simp only [h1, List.append_assoc], ?_, by simp [h3]⟩
  have e : ads.map (pval (q.1 ++ [t], q.2 ++ [v])) = ads.map (pval q) := List.map_congr_left fun x hx => pval_old h3 (by rw [h1]; exact List.mem_append_right _ hx) t v
  simp only [List.map_append, List.map_cons, List.map_nil]
  rw [pval_new h3 hn, e, ← List.append_assoc, ← h2]

theorem mst_cases (q : PL) (t v : Int) :
    (inB t 10 17 = false ∧ mst q t v = if t = v then some q else none) ∨ (inB t 10 17 = true ∧ t ∈ q.1 ∧ mst q t v = if bval q.1 q.2 t = v then some q else none) ∨ (inB t 10 17 = true ∧ t ∉ q.1 ∧ mst q t v = some (q.1 ++ [t], q.2 ++ [v])) := by
  unfold mst
  by_cases h : inB t 10 17 = true
  · by_cases hm : t ∈ q.1
    · exact .inr (.inl ⟨h, hm, by simp [h, hm]⟩)
    · exact .inr (.inr ⟨h, hm, by simp [h, hm]⟩)
  · have h' : inB t 10 17 = false := by simpa using h
    exact .inl ⟨h', by simp [h']⟩

theorem ownsMap_trn {w w' : World} {mb n : Nat} {D : DataW Unit} (h : w.ownsMap Tryd.prog 3 (plainElem Tryd.prog 3) mb n D) (hg : ∀ es ck, w.heap[mb]? = some (.map es ck) → w'.heap[mb]? = w.heap[mb]?) : w'.ownsMap Tryd.prog 3 (plainElem Tryd.prog 3) mb n D := by
  obtain ⟨es, ck, hb, r⟩ := h
  exact ⟨es, ck, (hg es ck hb).trans hb, r⟩
theorem ownsMap_block {w : World} {mb n : Nat} {D : DataW Unit} (h : w.ownsMap Tryd.prog 3 (plainElem Tryd.prog 3) mb n D) : ∃ es ck, w.heap[mb]? = some (.map es ck) := by
  obtain ⟨es, ck, hb, _⟩ := h
  exact ⟨es, ck, hb⟩

end Go.Proofs.YtnmhppiccganoaaDoor

namespace Go.Proofs.YtnmhppiccganoaaDoor
open Go.ChangeShapes Go.WideShapes Go.ChangeAt Go.RowKit Go.Sort
open Go.Maps (Keyed int_keyed keyOf_int_mk)
set_option linter.unusedVariables false
set_option linter.unusedSimpArgs false

/-- What an atom against a fact leaves of a matching. -/
def matG (q : PL) (r : Int) (ts : List Int) (r' : Int) (vs : List Int) : Option PL := if r = r' ∧ ts.length = vs.length then mgo q ts vs else none
theorem matG_no {q : PL} {r r' : Int} {ts vs : List Int} (h : ¬ (r = r' ∧ ts.length = vs.length)) : matG q r ts r' vs = none := if_neg h
theorem AD.lens {p0 q : PL} {ads : List Int} (h : AD p0 q ads) : q.1.length = p0.1.length + ads.length := by rw [h.1, List.length_append]

theorem getD_mem (l : List Int) {k : Nat} (h : k < l.length) : l.getD k 0 ∈ l := by
  rw [List.getD_eq_getElem?_getD, List.getElem?_eq_getElem h]
  exact List.getElem_mem h
theorem ownsRow_below {w w' : World} {base : Nat} {v : Value} {n : Nat} {cs : List Value} (h : w.ownsRow base 3 1 v n cs) (hb : Below w.heap.size w w') : w'.ownsRow base 3 1 v n cs := by
  refine ⟨h.1, ?_⟩
  rcases h.2 with hn | ⟨k, cap, cur, hv, hbk, hk, r⟩
  · exact .inl hn
  · exact .inr ⟨k, cap, cur, hv, hbk, (hb.block k (Array.getElem?_eq_some_iff.1 hk).1).trans hk, r⟩
end Go.Proofs.YtnmhppiccganoaaDoor

namespace Go.Proofs.YtnmhppiccganoaaDoor
open Go.ChangeShapes Go.WideShapes Go.ChangeAt Go.RowKit Go.Sort
open Go.Maps (Keyed int_keyed keyOf_int_mk)
set_option linter.unusedVariables false
set_option linter.unusedSimpArgs false

theorem LK.skip {D : DataW Unit} {p : PL} (h : LK D p) (hl : p.1.length = p.2.length) {t v : Int} (hin : t ∈ p.1) : LK D (p.1 ++ [t], p.2 ++ [v]) := ⟨h.1, fun x => by
  have e : x ∈ p.1 ++ [t] ↔ x ∈ p.1 := by
    simp only [List.mem_append, List.mem_singleton]
    exact ⟨fun h => h.elim id (fun h => h ▸ hin), .inl⟩
  refine ⟨?_, fun hx => ?_⟩
  · rw [(h.2 x).1]
    exact decide_eq_decide.2 e.symm
  · rw [(h.2 x).2 (e.1 hx), pval_old hl (e.1 hx)]⟩
theorem LK.nil : LK (.map []) ([], []) := ⟨⟨[], rfl⟩, fun x => ⟨rfl, fun h => by simp at h⟩⟩
theorem take_lens {ts vs : List Int} (h : ts.length = vs.length) (k : Nat) : (ts.take k).length = (vs.take k).length := by rw [List.length_take, List.length_take, h]

end Go.Proofs.YtnmhppiccganoaaDoor

namespace Go.Proofs.YtnmhppiccganoaaDoor
set_option linter.unusedVariables false
set_option linter.unusedSimpArgs false

section
variable {P : Program} {ops : Array Oper} {Q : Exit → Act → World → Prop} {md : Region.Mode}

/-- Every binding edge leads back. -/
def backB (md : Region.Mode) (ops : Array Oper) : Bool :=
  (List.range ops.size).all fun i => ((ops[i]?).map (·.after.all fun e => !Region.binds md e || decide (e.on < i))).getD true

theorem getD_flip {l : Array Bool} {i : Nat} (h : i < l.size) (a b : Bool) : l.getD i a = l.getD i b := by
  rw [Array.getD_eq_getD_getElem?, Array.getD_eq_getD_getElem?, Array.getElem?_eq_getElem h]
  rfl

theorem ready_mem {listed : Array Bool} {i : Nat} : i ∈ Region.ready md ops listed ↔ i < ops.size ∧ listed.getD i true = false ∧ ∃ o, ops[i]? = some o ∧ o.after.all (fun e => !Region.binds md e || listed.getD e.on false) = true := by
  unfold Region.ready
  rw [List.mem_filter, List.mem_range]
  refine ⟨fun ⟨h, h2⟩ => ?_, fun ⟨h, h2, o, h3, h4⟩ => ⟨h, ?_⟩⟩
  · rw [Bool.and_eq_true] at h2
    obtain ⟨h2, h3⟩ := h2
    refine ⟨h, by simpa using h2, ops[i], Array.getElem?_eq_getElem h, ?_⟩
    rw [Array.getElem?_eq_getElem h] at h3
    exact h3
  · rw [h2, h3, Bool.and_eq_true]
    exact ⟨rfl, h4⟩

theorem ready_lt {listed : Array Bool} {i : Nat} (h : i ∈ Region.ready md ops listed) : i < ops.size := (ready_mem.1 h).1
theorem ready_new {listed : Array Bool} {i : Nat} (h : i ∈ Region.ready md ops listed) (hz : listed.size = ops.size) : listed.getD i false = false := by
  rw [getD_flip (hz ▸ ready_lt h) false true]
  exact (ready_mem.1 h).2.1

/-- i waits for j. -/
def waits (md : Region.Mode) (ops : Array Oper) (i j : Nat) : Bool := ((ops[i]?).map (·.after.any fun e => Region.binds md e && e.on == j)).getD false
theorem waits_spec {i j : Nat} (h : waits md ops i j = true) : ∃ o, ops[i]? = some o ∧ ∃ e ∈ o.after, Region.binds md e = true ∧ e.on = j := by
  unfold waits at h
  cases ho : ops[i]? with
  | none => rw [ho] at h; simp at h
  | some o =>
    rw [ho] at h
    simp only [Option.map_some, Option.getD_some] at h
    obtain ⟨e, he, hb⟩ := Array.any_eq_true'.1 h
    simp only [Bool.and_eq_true, beq_iff_eq] at hb
    exact ⟨o, rfl, e, he, hb.1, hb.2⟩
theorem ready_dep {listed : Array Bool} {i : Nat} (h : i ∈ Region.ready md ops listed) {j : Nat} (hw : waits md ops i j = true) : listed.getD j false = true := by
  obtain ⟨_, _, o, ho, ha⟩ := ready_mem.1 h
  obtain ⟨o', ho', e, he, hb, rfl⟩ := waits_spec hw
  rw [ho] at ho'
  cases ho'
  have := Array.all_eq_true'.1 ha e he
  simpa [hb] using this

theorem ready_all (hb : backB md ops = true) {listed : Array Bool} (hz : listed.size = ops.size) (hr : Region.ready md ops listed = []) : ∀ i, i < ops.size → listed.getD i false = true := by
  intro i
  induction i using Nat.strongRecOn with
  | ind i ih =>
    intro hi
    cases hl : listed.getD i false with
    | true => rfl
    | false =>
      have hm : i ∈ Region.ready md ops listed := by
        refine ready_mem.2 ⟨hi, by rw [getD_flip (hz ▸ hi) true false, hl], ops[i], Array.getElem?_eq_getElem hi, ?_⟩
        refine Array.all_eq_true'.2 fun e he => ?_
        have h1 := List.all_eq_true.1 hb i (List.mem_range.2 hi)
        rw [Array.getElem?_eq_getElem hi] at h1
        have h2 := Array.all_eq_true'.1 h1 e he
        cases hbi : Region.binds md e with
        | false => rfl
        | true =>
          rw [hbi] at h2
          have h3 : e.on < i := by simpa using h2
          rw [ih e.on h3 (by omega)]
          rfl
      rw [hr] at hm
      cases hm

/-- What is listed holds what it waits for. -/
def Closed (md : Region.Mode) (ops : Array Oper) (listed : Array Bool) : Prop := ∀ i j, listed.getD i false = true → waits md ops i j = true → listed.getD j false = true
theorem getD_set_true {l : Array Bool} {i j : Nat} (h : l.getD j false = true) : (l.setIfInBounds i true).getD j false = true := by
  rw [Array.getD_eq_getD_getElem?] at h ⊢
  rw [Array.getElem?_setIfInBounds]
  split
  · split
    · rfl
    · rename_i e h2
      subst e
      rw [Array.getElem?_eq_none (by omega)] at h
      simp at h
  · exact h
theorem getD_set {l : Array Bool} {i j : Nat} (hi : i < l.size) : (l.setIfInBounds i true).getD j false = (if i = j then true else l.getD j false) := by
  rw [Array.getD_eq_getD_getElem?, Array.getElem?_setIfInBounds]
  split
  · rfl
  · rw [Array.getD_eq_getD_getElem?]
theorem Closed.set {listed : Array Bool} (h : Closed md ops listed) (hz : listed.size = ops.size) {i : Nat} (hi : i ∈ Region.ready md ops listed) : Closed md ops (listed.setIfInBounds i true) := by
  intro k j hk hw
  rw [getD_set (hz ▸ ready_lt hi)] at hk
  split at hk
  · rename_i e
    subst e
    exact getD_set_true (ready_dep hi hw)
  · exact getD_set_true (h k j hk hw)
theorem Closed.none (n : Nat) : Closed md ops (Array.replicate n false) := by
  intro k j hk _
  rw [Array.getD_eq_getD_getElem?] at hk
  by_cases h : k < n
  · simp [h] at hk
  · simp [Array.getElem?_eq_none (show (Array.replicate n false).size ≤ k by simp; omega)] at hk

theorem cnt_set {l : Array Bool} {i : Nat} (h : i < l.size) (hf : l.getD i true = false) : (l.setIfInBounds i true).toList.count false + 1 = l.toList.count false := by
  have he : l.toList[i]'(by simpa using h) = false := by
    rw [Array.getD_eq_getD_getElem?, Array.getElem?_eq_getElem h] at hf
    simpa using hf
  rw [Array.toList_setIfInBounds, List.count_set (by simpa using h), he]
  have : 0 < l.toList.count false := List.count_pos_iff.2 (he ▸ List.getElem_mem _)
  have h1 : (false == false) = true := rfl
  have h2 : (true == false) = false := rfl
  rw [if_pos h1, h2, if_neg (by decide)]
  omega

theorem wpAny_inv (hb : backB md ops = true) (I : Array Bool → Act → World → Prop)
    (hstep : ∀ listed a w i, i ∈ Region.ready md ops listed → listed.size = ops.size → Closed md ops listed → I listed a w → wpOp P ops Q i (fun a' w' => I (listed.setIfInBounds i true) a' w') a w)
    (hdone : ∀ listed a w, listed.size = ops.size → (∀ i, i < ops.size → listed.getD i false = true) → I listed a w → Q .normal a w) :
    ∀ (fuel : Nat) (listed : Array Bool) (a : Act) (w : World), listed.size = ops.size → Closed md ops listed → listed.toList.count false ≤ fuel → I listed a w → wpAny P md ops Q fuel listed a w := by
  intro fuel
  induction fuel with
  | zero =>
    intro listed a w hz hc hn hI
    have hr : Region.ready md ops listed = [] := by
      refine List.eq_nil_iff_forall_not_mem.2 fun i hi => ?_
      have := cnt_set (hz ▸ ready_lt hi) (ready_mem.1 hi).2.1
      omega
    exact ⟨hr, hdone _ _ _ hz (ready_all hb hz hr) hI⟩
  | succ fuel ih =>
    intro listed a w hz hc hn hI
    refine ⟨fun hr => hdone _ _ _ hz (ready_all hb hz hr) hI, fun i hi => ?_⟩
    refine wpOp_mono (fun a' w' h' => ?_) (hstep listed a w i hi hz hc hI)
    refine ih _ _ _ (by rw [Array.size_setIfInBounds]; exact hz) (hc.set hz hi) ?_ h'
    have := cnt_set (hz ▸ ready_lt hi) (ready_mem.1 hi).2.1
    omega

theorem wp_region_inv {id : Nat} {a : Act} {w : World} (hm : P.follows .mixedOrders = true) (hb : backB .any ops = true) (I : Array Bool → Act → World → Prop)
    (h0 : I (Array.replicate ops.size false) a (World.drew w))
    (hstep : ∀ listed a w i, i ∈ Region.ready .any ops listed → listed.size = ops.size → Closed .any ops listed → I listed a w → wpOp P ops Q i (fun a' w' => I (listed.setIfInBounds i true) a' w') a w)
    (hdone : ∀ listed a w, listed.size = ops.size → (∀ i, i < ops.size → listed.getD i false = true) → I listed a w → Q .normal a w) :
    (Code.region id ops true).wp P Q a w := by
  refine wp_region_any hm ?_
  refine wpAny_inv hb I hstep hdone _ _ _ _ (by simp) (Closed.none _) ?_ h0
  refine Nat.le_trans List.count_le_length ?_
  simp
end
end Go.Proofs.YtnmhppiccganoaaDoor
