/- Answers, purely: all bindings by matching atom after atom, their heads in order. Conditions: none beyond each theorem's own. -/
import Derived.Test.YtighalbnpgmdfaaGreatMat
import Derived.Test.YtighalbnpgmdfaaGreatTupO
import Derived.Test.YtighalbnpgmdfaaGreatCmpT
namespace Go.Proofs.YtighalbnpgmdfaaGreat
open Go.ChangeShapes Go.WideShapes Go.ChangeAt Go.RowKit Go.Sort
set_option linter.unusedVariables false
set_option linter.unusedSimpArgs false

/-- One atom against one fact. -/
def mtF (p : PL) (a f : Int × List Int) : Option PL := matB p a.1 a.2 f.1 f.2
/-- All that one atom makes of a binding, in the order of the facts. -/
def extA (fs : FL) (a : Int × List Int) (p : PL) : List PL := fs.filterMap (mtF p a)
def extB (fs : FL) (a : Int × List Int) (ps : List PL) : List PL := ps.flatMap (extA fs a)
def bndsF (fs : FL) (ats : FL) (ps : List PL) : List PL := ats.foldl (fun ps a => extB fs a ps) ps
def bnds (fs ats : FL) : List PL := bndsF fs ats [([], [])]
/-- The same, depth first. -/
def enum (fs : FL) : FL → PL → List PL
  | [], p => [p]
  | a :: ats, p => (extA fs a p).flatMap (enum fs ats)
theorem bndsF_enum (fs : FL) : ∀ (ats : FL) (ps : List PL), bndsF fs ats ps = ps.flatMap (enum fs ats)
  | [], ps => by
    show ps = ps.flatMap fun p => [p]
    induction ps with
    | nil => rfl
    | cons p ps ih => rw [List.flatMap_cons, ← ih]; rfl
  | a :: ats, ps => by
    show bndsF fs ats (extB fs a ps) = _
    rw [bndsF_enum fs ats]
    unfold extB
    rw [List.flatMap_assoc]
    rfl
theorem bnds_enum (fs ats : FL) : bnds fs ats = enum fs ats ([], []) := by
  unfold bnds
  rw [bndsF_enum]
  simp
theorem bndsF_take (fs ats : FL) (ps : List PL) {k : Nat} (hk : k < ats.length) {a : Int × List Int} (hf : ats.getD k (0, []) = a) : bndsF fs (ats.take (k + 1)) ps = extB fs a (bndsF fs (ats.take k) ps) := by
  have e : ats[k] = a := by rw [← hf]; simp [List.getD_eq_getElem?_getD, hk]
  unfold bndsF
  rw [List.take_succ_eq_append_getElem hk, e, List.foldl_append]
  rfl
theorem extA_len (fs : FL) (a : Int × List Int) (p : PL) : (extA fs a p).length ≤ fs.length := List.length_filterMap_le _ _
theorem extB_len (fs : FL) (a : Int × List Int) : ∀ ps : List PL, (extB fs a ps).length ≤ ps.length * fs.length
  | [] => by simp [extB]
  | p :: ps => by
    have h1 := extB_len fs a ps
    have h2 := extA_len fs a p
    have e : extB fs a (p :: ps) = extA fs a p ++ extB fs a ps := rfl
    rw [e, List.length_append, List.length_cons, Nat.add_mul, Nat.one_mul]
    omega
theorem bndsF_len (fs : FL) (m : Nat) (hm : fs.length ≤ m) : ∀ (ats : FL) (ps : List PL), (bndsF fs ats ps).length ≤ ps.length * m ^ ats.length
  | [], ps => by simp [bndsF]
  | a :: ats, ps => by
    have h1 := bndsF_len fs m hm ats (extB fs a ps)
    have h2 := extB_len fs a ps
    have h3 : ps.length * fs.length ≤ ps.length * m := Nat.mul_le_mul_left _ hm
    show (bndsF fs ats (extB fs a ps)).length ≤ _
    rw [List.length_cons, Nat.pow_succ, Nat.mul_comm (m ^ ats.length) m, ← Nat.mul_assoc]
    exact Nat.le_trans h1 (Nat.mul_le_mul_right _ (Nat.le_trans h2 h3))

/-- What holds of every binding that is found. -/
theorem mst_good {p q : PL} {t v : Int} (h : mst p t v = some q) : q = p ∨ (q = (p.1 ++ [t], p.2 ++ [v]) ∧ inB t 10 17 = true ∧ t ∉ p.1) := by
  unfold mst at h
  split at h
  · split at h
    · split at h
      · injection h with h; exact .inl h.symm
      · cases h
    · rename_i h1 h2
      injection h with h; exact .inr ⟨h.symm, h1, h2⟩
  · split at h
    · injection h with h; exact .inl h.symm
    · cases h
/-- A binding of variables, each once, to values. -/
def Gd (p : PL) : Prop := p.1.length = p.2.length ∧ p.1.Nodup ∧ allB 10 17 p.1 = true ∧ allB 0 9 p.2 = true
theorem gd_nil : Gd ([], []) := ⟨rfl, List.nodup_nil, rfl, rfl⟩
theorem allB_snoc (a b : Int) (xs : List Int) (x : Int) : allB a b (xs ++ [x]) = (allB a b xs && inB x a b) := by
  unfold allB
  rw [List.all_append]
  simp
theorem mst_gd {p q : PL} {t v : Int} (h : mst p t v = some q) (hp : Gd p) (hv : inB v 0 9 = true) : Gd q := by
  rcases mst_good h with e | ⟨e, h1, h2⟩
  · rw [e]; exact hp
  · subst e
    refine ⟨by simp [hp.1], ?_, by rw [allB_snoc, hp.2.2.1, h1]; rfl, by rw [allB_snoc, hp.2.2.2, hv]; rfl⟩
    exact List.nodup_append.2 ⟨hp.2.1, by simp, fun a ha b hb e => by
      have : b = t := by simpa using hb
      subst this; subst e; exact h2 ha⟩
theorem mgo_gd : ∀ (ts vs : List Int) (p q : PL), mgo p ts vs = some q → Gd p → allB 0 9 vs = true → Gd q
  | [], vs, p, q, h, hp, _ => by rw [mgo_nil] at h; injection h with h; rw [← h]; exact hp
  | _ :: _, [], p, q, h, hp, _ => by injection h with h; rw [← h]; exact hp
  | t :: ts, v :: vs, p, q, h, hp, hv => by
    have hv' : inB v 0 9 = true ∧ allB 0 9 vs = true := by simpa [allB] using hv
    change (mst p t v).bind _ = _ at h
    cases hm : mst p t v with
    | none => rw [hm] at h; cases h
    | some r =>
      rw [hm] at h
      exact mgo_gd ts vs r q h (mst_gd hm hp hv'.1) hv'.2
theorem mtF_gd {p q : PL} {a f : Int × List Int} (h : mtF p a f = some q) (hp : Gd p) (hv : allB 0 9 f.2 = true) : Gd q := by
  unfold mtF matB at h
  split at h
  · exact mgo_gd _ _ _ _ h hp hv
  · cases h
/-- The binding grows at its end alone. -/
def Pre (p q : PL) : Prop := ∃ u v : List Int, q = (p.1 ++ u, p.2 ++ v) ∧ u.length = v.length
theorem Pre.refl (p : PL) : Pre p p := ⟨[], [], by simp, rfl⟩
theorem Pre.trans {p q r : PL} (h : Pre p q) (k : Pre q r) : Pre p r := by
  obtain ⟨u, v, rfl, e⟩ := h
  obtain ⟨u', v', rfl, e'⟩ := k
  exact ⟨u ++ u', v ++ v', by simp, by simp [e, e']⟩
theorem mst_pre {p q : PL} {t v : Int} (h : mst p t v = some q) : Pre p q := by
  rcases mst_good h with e | ⟨e, _, _⟩
  · rw [e]; exact Pre.refl _
  · rw [e]; exact ⟨[t], [v], rfl, rfl⟩
theorem mst_has {p q : PL} {t v : Int} (h : mst p t v = some q) (ht : inB t 10 17 = true) : t ∈ q.1 := by
  unfold mst at h
  rw [if_pos ht] at h
  split at h
  · split at h
    · injection h with h; rw [← h]; assumption
    · cases h
  · injection h with h; rw [← h]; simp
theorem Pre.mem {p q : PL} (h : Pre p q) {t : Int} (ht : t ∈ p.1) : t ∈ q.1 := by
  obtain ⟨u, v, rfl, _⟩ := h
  exact List.mem_append_left _ ht
theorem mgo_pre : ∀ (ts vs : List Int) (p q : PL), mgo p ts vs = some q → Pre p q ∧ (ts.length ≤ vs.length → ∀ t ∈ ts, inB t 10 17 = true → t ∈ q.1)
  | [], vs, p, q, h => by rw [mgo_nil] at h; injection h with h; rw [← h]; exact ⟨Pre.refl _, fun _ t ht => by simp at ht⟩
  | _ :: _, [], p, q, h => by injection h with h; rw [← h]; exact ⟨Pre.refl _, fun hl => by simp at hl⟩
  | t :: ts, v :: vs, p, q, h => by
    change (mst p t v).bind _ = _ at h
    cases hm : mst p t v with
    | none => rw [hm] at h; cases h
    | some r =>
      rw [hm] at h
      have ih := mgo_pre ts vs r q h
      refine ⟨(mst_pre hm).trans ih.1, fun hl x hx hv => ?_⟩
      rcases List.mem_cons.1 hx with e | e
      · subst e; exact ih.1.mem (mst_has hm hv)
      · exact ih.2 (by simpa using hl) x e hv
theorem mtF_pre {p q : PL} {a f : Int × List Int} (h : mtF p a f = some q) : Pre p q ∧ ∀ t ∈ a.2, inB t 10 17 = true → t ∈ q.1 := by
  unfold mtF matB at h
  split at h
  · rename_i hc
    have := mgo_pre _ _ _ _ h
    exact ⟨this.1, this.2 (by omega)⟩
  · cases h
theorem enum_pre (fs : FL) : ∀ (ats : FL) (p q : PL), q ∈ enum fs ats p → Pre p q ∧ ∀ a ∈ ats, ∀ t ∈ a.2, inB t 10 17 = true → t ∈ q.1
  | [], p, q, h => by
    have : q = p := by simpa [enum] using h
    subst this
    exact ⟨Pre.refl _, fun a ha => by simp at ha⟩
  | a :: ats, p, q, h => by
    unfold enum at h
    rw [List.mem_flatMap] at h
    obtain ⟨r, hr, hq⟩ := h
    unfold extA at hr
    rw [List.mem_filterMap] at hr
    obtain ⟨f, _, hf⟩ := hr
    have h1 := mtF_pre hf
    have h2 := enum_pre fs ats r q hq
    refine ⟨h1.1.trans h2.1, fun b hb t ht hv => ?_⟩
    rcases List.mem_cons.1 hb with e | e
    · subst e; exact h2.1.mem (h1.2 t ht hv)
    · exact h2.2 b e t ht hv

/-- The heads of the bindings, in order and once each. -/
def headT (hs : List Int) (p : PL) : List Int := hs.map (bval p.1 p.2)
def tupAll (l : TL) (ts : TL) : TL := ts.foldl addT l
def tupA (hs : List Int) (ps : List PL) : TL := tupAll [] (ps.map (headT hs))
theorem tupA_snoc (hs : List Int) (ps : List PL) (p : PL) : tupA hs (ps ++ [p]) = addT (tupA hs ps) (headT hs p) := by
  unfold tupA tupAll
  rw [List.map_append, List.foldl_append]
  rfl
theorem tupA_take (hs : List Int) (ps : List PL) {k : Nat} (hk : k < ps.length) {p : PL} (hf : ps.getD k ([], []) = p) : tupA hs (ps.take (k + 1)) = addT (tupA hs (ps.take k)) (headT hs p) := by
  have e : ps[k] = p := by rw [← hf]; simp [List.getD_eq_getElem?_getD, hk]
  rw [List.take_succ_eq_append_getElem hk, e, tupA_snoc]
theorem addTI_mem : ∀ (l : TL) (t x : List Int), x ∈ addTI l t ↔ x = t ∨ x ∈ l
  | [], t, x => by simp [addTI]
  | g :: r, t, x => by
    unfold addTI
    split
    · simp
    · rw [List.mem_cons, addTI_mem r t x, List.mem_cons]
      constructor
      · rintro (h | h | h)
        · exact .inr (.inl h)
        · exact .inl h
        · exact .inr (.inr h)
      · rintro (h | h | h)
        · exact .inr (.inl h)
        · exact .inl h
        · exact .inr (.inr h)
theorem addTI_asc : ∀ (l : TL) (t : List Int), AscT l → t ∉ l → AscT (addTI l t)
  | [], t, _, _ => by simp [addTI]
  | g :: r, t, h, hn => by
    have h' := List.pairwise_cons.1 h
    unfold addTI
    split
    · rename_i hlt
      exact List.pairwise_cons.2 ⟨fun b hb => by
        rcases List.mem_cons.1 hb with e | e
        · rw [e]; exact hlt
        · exact ltL_trans hlt (h'.1 b e), h⟩
    · rename_i hge
      have hl : ltL g t := ltL_total (xs := t) (ys := g) hge fun e => hn (by rw [e]; simp)
      refine List.pairwise_cons.2 ⟨fun b hb => ?_, addTI_asc r t h'.2 fun hm => hn (List.mem_cons_of_mem _ hm)⟩
      rcases (addTI_mem r t b).1 hb with e | e
      · rw [e]; exact hl
      · exact h'.1 b e
theorem addT_asc {l : TL} {t : List Int} (h : AscT l) : AscT (addT l t) := by
  unfold addT
  split
  · exact h
  · exact addTI_asc l t h (by assumption)
theorem addT_iff (l : TL) (t x : List Int) : x ∈ addT l t ↔ x = t ∨ x ∈ l := by
  unfold addT
  split
  · rename_i hm
    exact ⟨.inr, fun h => by
      rcases h with h | h
      · rw [h]; exact hm
      · exact h⟩
  · exact addTI_mem l t x
theorem tupAll_ok : ∀ (ts l : TL), AscT l → AscT (tupAll l ts) ∧ ∀ x, x ∈ tupAll l ts ↔ x ∈ ts ∨ x ∈ l
  | [], l, h => ⟨h, fun x => by simp [tupAll]⟩
  | t :: ts, l, h => by
    have ih := tupAll_ok ts (addT l t) (addT_asc h)
    show AscT (tupAll (addT l t) ts) ∧ ∀ x, x ∈ tupAll (addT l t) ts ↔ _
    refine ⟨ih.1, fun x => ?_⟩
    rw [ih.2, addT_iff, List.mem_cons]
    constructor
    · rintro (h | h | h)
      · exact .inl (.inr h)
      · exact .inl (.inl h)
      · exact .inr h
    · rintro ((h | h) | h)
      · exact .inr (.inl h)
      · exact .inl h
      · exact .inr (.inr h)
theorem tupA_ok (hs : List Int) (ps : List PL) : AscT (tupA hs ps) ∧ ∀ x, x ∈ tupA hs ps ↔ ∃ p ∈ ps, headT hs p = x := by
  have := tupAll_ok (ps.map (headT hs)) [] List.Pairwise.nil
  refine ⟨this.1, fun x => ?_⟩
  unfold tupA
  rw [this.2, List.mem_map]
  simp
/-- An ascending list of the heads is THE list. -/
theorem tupA_is {hs : List Int} {ps : List PL} {r : TL} (h : AscT r) (hm : ∀ x, x ∈ r ↔ ∃ p ∈ ps, headT hs p = x) : tupA hs ps = r :=
  ascT_unique _ _ (tupA_ok hs ps).1 h fun x => by rw [(tupA_ok hs ps).2, hm]
end Go.Proofs.YtighalbnpgmdfaaGreat
