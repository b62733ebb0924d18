/- Accesses of the call's own that grow by append; which accesses are open. Conditions: none beyond each theorem's own. -/
import Derived.Test.YtnmhppiccganoaaDoorAg1
import Derived.Test.YtnmhppiccganoaaDoorAg4
import Derived.Test.YtnmhppiccganoaaDoorAg7

namespace Go.Proofs.YtnmhppiccganoaaDoor
open Go.ChangeShapes Go.WideShapes Go.ChangeAt Go.RowKit Go.Sort
set_option linter.unusedVariables false
set_option linter.unusedSimpArgs false

/-- The slice value v owns a row that is the facts fs. -/
def OwnCA (w : World) (lo hi : Nat) (v : Value) (fs : FL) (cs : List Value) (bs : Nat → Nat) : Prop := w.ownsRow lo 66 2 v fs.length cs ∧ Items w lo hi fs cs bs
theorem OwnCA.step {w w' : World} {lo : Nat} {v : Value} {fs : FL} {cs : List Value} {bs : Nat → Nat} (h : OwnCA w lo w.heap.size v fs cs bs) (b : Below w.heap.size w w') : OwnCA w' lo w'.heap.size v fs cs bs :=
  ⟨h.1.kept (own_none b) (by rcases hv : v.ownBlock with _ | g <;> simp), (h.2.keep fun q _ h2 _ => b.block q h2).mono (Nat.le_refl _) b.size⟩
theorem OwnCA.cur {w w' : World} {lo hi : Nat} {v : Value} {fs : FL} {cs : List Value} {bs : Nat → Nat} (h : OwnCA w lo hi v fs cs bs) (hhi : hi ≤ w.heap.size) (b : Below w.heap.size w w') : OwnCA w' lo hi v fs cs bs :=
  ⟨h.1.kept (own_none b) (by rcases hv : v.ownBlock with _ | g <;> simp), h.2.keep fun q _ h2 _ => b.block q (by omega)⟩
theorem OwnCA.lo {w : World} {lo lo' hi : Nat} {v : Value} {fs : FL} {cs : List Value} {bs : Nat → Nat} (h : OwnCA w lo hi v fs cs bs) (a : lo' ≤ lo) : OwnCA w lo' hi v fs cs bs := by
  obtain ⟨⟨h1, h2⟩, h3⟩ := h
  refine ⟨⟨h1, ?_⟩, h3.mono a (Nat.le_refl _)⟩
  rcases h2 with h2 | ⟨g, cap, cur, hv, hb, hr⟩
  · exact .inl h2
  · exact .inr ⟨g, cap, cur, hv, Nat.le_trans a hb, hr⟩
theorem OwnCA.to_P {w : World} {lo g n cap : Nat} {fs : FL} {cs : List Value} {bs : Nat → Nat} (h : OwnCA w lo w.heap.size (.slice (some ⟨g, 0, none⟩) n cap) fs cs bs) : n = fs.length ∧ n ≤ cap ∧ OwnPa w lo w.heap.size g (cap * 2) fs.length fs := by
  obtain ⟨⟨hl, h⟩, h1, h2, h3⟩ := h
  rcases h with ⟨h, _⟩ | ⟨g', cap', cur, hv, hb, hg, hnc, hcm, hcs, htk⟩
  · cases h
  · injection hv with e1 e2 e3
    injection e1 with e1
    injection e1 with e1
    subst e1 e3
    have hlt : g < w.heap.size := by
      rcases Nat.lt_or_ge g w.heap.size with hlt | hge
      · exact hlt
      · rw [Array.getElem?_eq_none hge] at hg; cases hg
    have at_ : ∀ i u, cs[i]? = some u → cur.getD i undef = u := fun i u hu => by
      have hi : i < fs.length * 2 := by have := (List.getElem?_eq_some_iff.1 hu).1; omega
      rw [← htk, List.getElem?_take_of_lt hi, Array.getElem?_toList] at hu
      simp [Array.getD_eq_getD_getElem?, hu]
    refine ⟨e2, by omega, hb, hlt, fun i => cur.getD i undef, bs, ⟨cur, hg, hcs, fun i hi => by simp [Array.getD_eq_getD_getElem?, show i < cur.size by omega]⟩, fun j hj => ?_, h3⟩
    obtain ⟨e0, v1, e1, hv⟩ := h2 j hj
    exact ⟨at_ _ _ e0, by show OwnV w lo w.heap.size (cur.getD (j * 2 + 1) undef) (bs j) _; rw [at_ _ _ e1]; exact hv⟩
theorem OwnCA.form {w : World} {lo hi : Nat} {v : Value} {fs : FL} {cs : List Value} {bs : Nat → Nat} (h : OwnCA w lo hi v fs cs bs) : ∃ A c, v = .slice A fs.length c := by
  rcases h.1.2 with ⟨rfl, h0⟩ | ⟨g, cap, _, rfl, _⟩
  · exact ⟨none, 0, by rw [h0]⟩
  · exact ⟨_, _, rfl⟩
theorem OwnCA.rf {w : World} {lo n c : Nat} {A : Option Addr} {fs : FL} {cs : List Value} {bs : Nat → Nat} (h : OwnCA w lo w.heap.size (.slice A n c) fs cs bs) : RF w A fs := by
  rcases A with _ | ⟨g, off, spot⟩
  · intro hne
    rcases h.1.2 with ⟨_, h0⟩ | ⟨g, cap, _, hv, _⟩
    · exact absurd (List.eq_nil_of_length_eq_zero h0) hne
    · cases hv
  · have hg : off = 0 ∧ spot = none := by
      rcases h.1.2 with ⟨hv, _⟩ | ⟨g', cap, _, hv, _⟩
      · cases hv
      · injection hv with e1
        injection e1 with e1
        injection e1 with _ e2 e3
        exact ⟨e2, e3⟩
    obtain ⟨rfl, rfl⟩ := hg
    obtain ⟨e, hc, hp⟩ := h.to_P
    exact hp.rf (by omega)
theorem OwnCA.nil (w : World) (lo hi : Nat) : OwnCA w lo hi (.slice none 0 0) [] [] (fun _ => 0) := ⟨World.ownsRow_nil _ _ _ _, Items.nil _ _ _⟩
theorem OwnCA.mono {w : World} {lo hi hi' : Nat} {v : Value} {fs : FL} {cs : List Value} {bs : Nat → Nat} (h : OwnCA w lo hi v fs cs bs) (a : hi ≤ hi') : OwnCA w lo hi' v fs cs bs := ⟨h.1, h.2.mono (Nat.le_refl _) a⟩
/-- What a function that lists accesses returns. -/
def AddOutA (w : World) (res : FL) (e : Ending) (w' : World) : Prop :=
  ∃ A c cs bs, e = .returned (.slice A res.length c) ∧ OwnCA w' w.heap.size w'.heap.size (.slice A res.length c) res cs bs ∧ Below w.heap.size w w'
theorem OwnCA.ol {w : World} {lo n c : Nat} {A : Option Addr} {fs : FL} {cs : List Value} {bs : Nat → Nat} (h : OwnCA w lo w.heap.size (.slice A n c) fs cs bs) : OL w lo w.heap.size A fs := by
  rcases h.1.2 with ⟨hv, h0⟩ | ⟨g, cap, _, hv, _⟩
  · exact .inl (List.eq_nil_of_length_eq_zero h0)
  · injection hv with e1 e2 e3
    subst e1 e3
    obtain ⟨e, hc, hp⟩ := h.to_P
    exact .inr ⟨g, _, rfl, hp, by omega⟩
theorem Items.snocD {w : World} {lo hi : Nat} {fs : FL} {cs : List Value} {bs : Nat → Nat} (h : Items w lo hi fs cs bs) {q : Nat} {r : Int} {xs : List Int} {v : Value} (hv : OwnV w lo hi v q xs)
    (hd : ∀ k, k < fs.length → 0 < (fs.getD k (0, [])).2.length → 0 < xs.length → bs k ≠ q) : Items w lo hi (fs ++ [(r, xs)]) (cs ++ [.int .i64 r, v]) (fun k => if k < fs.length then bs k else q) := by
  obtain ⟨h1, h2, h3⟩ := h
  refine ⟨by simp only [List.length_append, h1, List.length_cons, List.length_nil]; omega, fun k hk => ?_, fun i j hij hj hi0 hj0 => ?_⟩
  · by_cases hkl : k < fs.length
    · simp only [if_pos hkl]
      rw [getD_left fs _ hkl, List.getElem?_append_left (by omega), List.getElem?_append_left (by omega)]
      exact h2 k hkl
    · rw [List.length_append] at hk
      simp only [if_neg hkl]
      have e : k = fs.length := by simp at hk; omega
      subst e
      rw [getD_right fs _ (Nat.le_refl _), List.getElem?_append_right (by omega), List.getElem?_append_right (by omega), h1, Nat.sub_self, Nat.sub_self, show fs.length * 2 + 1 - fs.length * 2 = 1 by omega]
      exact ⟨rfl, v, rfl, hv⟩
  · rw [List.length_append] at hj
    have hil : i < fs.length := by simp at hj; omega
    rw [getD_left fs _ hil] at hi0
    simp only [if_pos hil]
    by_cases hjl : j < fs.length
    · rw [getD_left fs _ hjl] at hj0
      simp only [if_pos hjl]
      exact h3 i j hij hjl hi0 hj0
    · have e : j = fs.length := by simp at hj; omega
      subst e
      rw [getD_right fs _ (Nat.le_refl _), Nat.sub_self] at hj0
      simp only [if_neg hjl]
      exact hd i hil hi0 hj0

/-- append(v, y) of one access, in a new block. -/
theorem wpList_pushA {P : Program} {W : World} {ops : Array Oper} {rest : List Oper} {o : Oper} {a : Act} {Q : Exit → Act → World → Prop} (hgd : o.guard = none) (s x : Operand) (t : TypeId)
    (ho : o.op = .call { callee := .builtin .append, args := #[s, x], argTypes := #[t, t] })
    (i : TypeInfo) (ht : P.underlying t = some (.slice 66)) (hi : P.info? 66 = some i) (hz : i.zero = some (.agg #[.int .i64 0, .slice none 0 0])) (hz1 : i.size = 2) (hz2 : i.bytes = 32)
    {lo hi' : Nat} {v : Value} {fs : FL} {cs : List Value} {bs : Nat → Nat} {r : Int} {xs : List Int} {V : Option Addr} {n c q : Nat} (hs : a.eval s = v) (hx : a.eval x = .slice (some ⟨W.heap.size, 0, none⟩) 1 1)
    (hO : OwnCA W lo hi' v fs cs bs) (hv : OwnV W lo hi' (.slice V n c) q xs) (hd : ∀ k, k < fs.length → 0 < (fs.getD k (0, [])).2.length → 0 < xs.length → bs k ≠ q) (h1 : lo ≤ W.heap.size) (h2 : hi' ≤ W.heap.size) (hn : fs.length + 1 ≤ 1048580)
    (h : ∀ v' w', OwnCA w' lo hi' v' (fs ++ [(r, xs)]) (cs ++ [.int .i64 r, .slice V n c]) (fun k => if k < fs.length then bs k else q) → W.grownBy w' v.ownBlock → wpList P ops Q rest (a.put o.dst v') w') :
    wpList P ops Q (o :: rest) a (W.alloc (.cells #[.int .i64 r, .slice V n c] 66)) := by
  have b := below_alloc W (.cells #[.int .i64 r, .slice V n c] 66)
  have hF := hO.cur h2 b
  refine wpList_append_own (P := P) _ hgd s x t ho lo 66 i _ 2 32 ht hi hz hz1 hz2 rfl (by omega) v fs.length cs hs hF.1 ⟨W.heap.size, 0, none⟩ 1 1 [.int .i64 r, .slice V n c] hx rfl
    (World.news_of_block (cs := #[.int .i64 r, .slice V n c]) (t := 66) (fr := (0, 0)) (heap_alloc_new W _)) (by simp [Value.oneCell'])
    (by unfold maxLen; omega) (by omega) (by simp; omega) ?_
  intro v' w' hown' hg _
  have hI : Items (W.alloc (.cells #[.int .i64 r, .slice V n c] 66)) lo hi' (fs ++ [(r, xs)]) (cs ++ [.int .i64 r, .slice V n c]) _ := hF.2.snocD (hv.keep fun _ hq _ => b.block _ (by omega)) hd
  refine h v' w' ⟨by rw [List.length_append]; exact hown', hI.keep fun q hq1 hq2 ⟨ds, hc⟩ => hg.block q (by have := b.size; omega) fun e => ?_⟩ ((World.grownBy_alloc W _ _).trans hg)
  rcases hF.1.2 with ⟨rfl, _⟩ | ⟨g, cap, cur, rfl, _, hh, _⟩
  · simp [Value.ownBlock] at e
  · have : g = q := own_some e.symm
    subst this
    rw [hc] at hh
    injection hh with hh
    injection hh with _ ht
    exact absurd ht (by decide)

/-! Which accesses are open. -/
def opnM (log : FL) (m : Int) (L : TL) : FL := (L.map fun l => (m, l)).filter fun a => decide (a ∉ log)
theorem opnM_take (log : FL) (m : Int) (L : TL) {k : Nat} (hk : k < L.length) {l : List Int} (hl : L.getD k [] = l) : opnM log m (L.take (k + 1)) = opnM log m (L.take k) ++ (if decide ((m, l) ∈ log) = true then [] else [(m, l)]) := by
  have e : L[k] = l := by rw [← hl]; simp [List.getD_eq_getElem?_getD, hk]
  unfold opnM
  rw [List.take_succ_eq_append_getElem hk, e, List.map_append, List.filter_append]
  by_cases h : (m, l) ∈ log <;> simp [h]
theorem opnM_len (log : FL) (m : Int) (L : TL) : (opnM log m L).length ≤ L.length := by
  unfold opnM
  exact Nat.le_trans (List.length_filter_le _ _) (by simp)
def opnAt (ms : ML) (vs : List Int) (log : FL) (m : Nat) : FL := if (ms.getD m noM).2.2.1 = 0 then opnM log m (lst vs (ms.getD m noM).2.1.length) else []
def opnN (ms : ML) (vs : List Int) (log : FL) : Nat → FL
  | 0 => []
  | n + 1 => opnN ms vs log n ++ opnAt ms vs log n
/-- The accesses that can be made and were not made. -/
def opnA (s : List Int) (ms : ML) (vs : List Int) (log : FL) : FL := if aremB s ms = true ∧ inpB 10 vs = true then opnN ms vs log ms.length else []
theorem opnA_no {s : List Int} {ms : ML} {vs : List Int} {log : FL} (h : ¬ (aremB s ms = true ∧ inpB 10 vs = true)) : opnA s ms vs log = [] := if_neg h
theorem opnA_yes {s : List Int} {ms : ML} {vs : List Int} {log : FL} (h1 : aremB s ms = true) (h2 : inpB 10 vs = true) : opnA s ms vs log = opnN ms vs log ms.length := if_pos ⟨h1, h2⟩
theorem inpB_at' {a : Int} {xs : List Int} (h : inpB a xs = true) {k : Nat} (hk : k < xs.length) : 0 ≤ xs.getD k 0 ∧ xs.getD k 0 ≤ a - 1 := by
  unfold inpB inpN at h
  rw [List.all_eq_true] at h
  have h1 := h k (by simpa using hk)
  unfold inpAt at h1
  rw [Bool.and_eq_true] at h1
  simpa [inB] using h1.1
theorem inpB_ge {a : Int} {xs : List Int} (h : inpB a xs = true) : ∀ k, k < xs.length → (k : Int) ≤ xs.getD k 0 := by
  have h0 := fun k (hk : k < xs.length) => inpB_at' h hk
  unfold inpB inpN at h
  rw [List.all_eq_true] at h
  intro k
  induction k with
  | zero => intro hk; exact (h0 0 hk).1
  | succ k ih =>
    intro hk
    have h1 := h (k + 1) (by simpa using hk)
    unfold inpAt at h1
    simp only [Bool.and_eq_true, Bool.or_eq_true, decide_eq_true_eq] at h1
    have h2 := ih (by omega)
    rcases h1.2 with h3 | h3
    · omega
    · rw [show k + 1 - 1 = k by omega] at h3
      omega
theorem inpB_len {a : Nat} {xs : List Int} (h : inpB (a : Int) xs = true) : xs.length ≤ a := by
  rcases Nat.lt_or_ge a xs.length with hlt | hge
  · have h1 := inpB_ge h a hlt
    have h2 := inpB_at' h hlt
    omega
  · exact hge
theorem inpB_dig {xs : List Int} (h : inpB 10 xs = true) : ∀ x ∈ xs, 0 ≤ x ∧ x ≤ 9 := fun x hx => by
  obtain ⟨k, hk, rfl⟩ := List.getElem_of_mem hx
  have := inpB_at' h hk
  have e : xs.getD k 0 = xs[k] := by simp [List.getD_eq_getElem?_getD, hk]
  rw [e] at this
  omega
theorem arem_len {s : List Int} {l : ML} (h : aremB s l = true) : l.length ≤ 5 := by
  unfold aremB at h
  simp only [Bool.and_eq_true, decide_eq_true_eq] at h
  exact h.2
theorem arem_inp {s : List Int} {l : ML} (h : aremB s l = true) {k : Nat} (hk : k < l.length) : (l.getD k noM).2.1.length ≤ 3 := by
  unfold aremB allM at h
  simp only [Bool.and_eq_true] at h
  have h4 := h.1.1
  rw [List.all_eq_true] at h4
  have h5 := h4 k (by simpa using hk)
  generalize l.getD k noM = f at h5 ⊢
  obtain ⟨r, xs, li, co, qu⟩ := f
  have h6 : methB s r xs li co qu = true := h5
  unfold methB at h6
  simp only [Bool.and_eq_true] at h6
  have h7 := h6.1.1.2
  have hs : schB s = true := h6.1.1.1
  have hr : 0 ≤ r ∧ r ≤ (s.length : Int) - 1 := by simpa [inB] using h7
  have ha := schB_at hs (show r.toNat < s.length by omega)
  have h8 := h6.2
  generalize s.getD r.toNat 0 = a at ha h8
  have e : a = ((a.toNat : Nat) : Int) := by omega
  rw [e] at h8
  have := inpB_len h8
  show xs.length ≤ 3
  omega
theorem opnAt_len {ms : ML} {vs : List Int} (log : FL) {m : Nat} (hv : vs.length ≤ 10) (hm : (ms.getD m noM).2.1.length ≤ 3) : (opnAt ms vs log m).length ≤ 1000 := by
  unfold opnAt
  split
  · exact Nat.le_trans (opnM_len _ _ _) (lst_le hv hm)
  · simp
theorem opnN_len {ms : ML} {vs : List Int} (log : FL) (hv : vs.length ≤ 10) (hm : ∀ k, k < ms.length → (ms.getD k noM).2.1.length ≤ 3) : ∀ n : Nat, n ≤ ms.length → (opnN ms vs log n).length ≤ 1000 * n
  | 0, _ => by simp [opnN]
  | n + 1, hn => by
    have h1 := opnN_len log hv hm n (by omega)
    have h2 := opnAt_len log hv (hm n (by omega))
    show (opnN ms vs log n ++ opnAt ms vs log n).length ≤ _
    rw [List.length_append]
    omega
theorem opnA_len (s : List Int) (ms : ML) (vs : List Int) (log : FL) : (opnA s ms vs log).length ≤ 5000 := by
  unfold opnA
  split
  · rename_i h
    have h1 := opnN_len log (inpB_len (a := 10) h.2) (fun k hk => arem_inp h.1 hk) ms.length (Nat.le_refl _)
    have h2 := arem_len h.1
    omega
  · simp
theorem opnN_mem {ms : ML} {vs : List Int} {log : FL} : ∀ (n : Nat) (a : Int × List Int), a ∈ opnN ms vs log n → ∃ m : Nat, m < n ∧ a.1 = m ∧ (ms.getD m noM).2.2.1 = 0 ∧ a.2 ∈ lst vs (ms.getD m noM).2.1.length ∧ a ∉ log
  | 0, a, h => by simp [opnN] at h
  | n + 1, a, h => by
    rcases List.mem_append.1 h with h | h
    · obtain ⟨m, h1, h2⟩ := opnN_mem n a h
      exact ⟨m, by omega, h2⟩
    · unfold opnAt at h
      split at h
      · rename_i h0
        unfold opnM at h
        rw [List.mem_filter, List.mem_map] at h
        obtain ⟨⟨l, hl, rfl⟩, h2⟩ := h
        exact ⟨n, by omega, rfl, h0, hl, by simpa using h2⟩
      · simp at h
theorem opnA_elem {s : List Int} {ms : ML} {vs : List Int} {log : FL} {a : Int × List Int} (h : a ∈ opnA s ms vs log) : a.2.length ≤ 3 ∧ 0 ≤ a.1 ∧ a.1.toNat < ms.length ∧ a.2.length = (ms.getD a.1.toNat noM).2.1.length ∧ ∀ x ∈ a.2, x ∈ vs := by
  unfold opnA at h
  split at h
  · rename_i h0
    obtain ⟨m, h1, h2, _, h3, _⟩ := opnN_mem _ a h
    have h4 := lst_elem vs _ _ h3
    have h5 := arem_inp h0.1 h1
    rw [h2]
    refine ⟨by omega, by omega, by simpa using h1, by simpa using h4.1, h4.2⟩
  · simp at h
theorem szF_small : ∀ (l : FL), (∀ a ∈ l, a.2.length ≤ 3) → szF l ≤ 4 * (l.length : Int)
  | [], _ => by simp [szF, sumN]
  | a :: l, h => by
    have h1 := szF_small l fun b hb => h b (by simp [hb])
    have h2 := h a (by simp)
    have e : szF (a :: l) = szF l + 1 + (a.2.length : Int) := by simp [szF, sumN]; omega
    rw [e, List.length_cons]
    omega
theorem opnA_sz (s : List Int) (ms : ML) (vs : List Int) (log : FL) : szF (opnA s ms vs log) ≤ 20000 := by
  have h1 := szF_small (opnA s ms vs log) fun a ha => (opnA_elem ha).1
  have h2 := opnA_len s ms vs log
  omega
end Go.Proofs.YtnmhppiccganoaaDoor
