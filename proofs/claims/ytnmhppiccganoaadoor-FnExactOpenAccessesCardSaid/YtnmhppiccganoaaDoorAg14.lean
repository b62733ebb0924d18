/- What the two functions MatchesOf answer. Conditions: none beyond each theorem's own. What the program's MatchesOf answers. Conditions: none beyond each theorem's own. What the two functions IsResponse answer. Conditions: none beyond each theorem's own. What the law of MatchesOf carries from call to call: marks on methods and on lists that may be empty. Conditions: none beyond each theorem's own. What the law of OpenAccesses carries from call to call. Conditions: none beyond each theorem's own. The listed variables of this seat's cards: a world that holds them, and what the list gives a walk. Conditions: none beyond each theorem's own. -/
import Derived.Test.YtnmhppiccganoaaDoorAg13
import Derived.Test.YtnmhppiccganoaaDoorMark2
import Derived.Test.YtnmhppiccganoaaDoorCards
import Derived.Test.YtnmhppiccganoaaDoorTie
import Derived.Test.YtnmhppiccganoaaDoorAg12
import Derived.Test.YtnmhppiccganoaaDoorOpen
import Derived.Deep.DeepHandedRow
import Derived.Lib.LaidTab
import Derived.ChangeOld
import Derived.Carry
import Derived.Deep.DeepCutAuto
import Derived.Deep.RegionWith

namespace Go.Proofs.YtnmhppiccganoaaDoor
open Go.ChangeShapes Go.WideShapes Go.ChangeAt Go.RowKit Go.Sort
set_option linter.unusedVariables false
set_option linter.unusedSimpArgs false

def matO (s : List Int) (l : ML) (fs : FL) (m : Int) (vs : List Int) : FL := if accB s l m vs && areB s fs then matF (l.getD m.toNat noM).1 (l.getD m.toNat noM).2.1 vs fs else []
theorem inpB_at {a : Int} {xs : List Int} (h : inpB a xs = true) {k : Nat} (hk : k < xs.length) : 0 ≤ xs.getD k 0 ∧ xs.getD k 0 ≤ a - 1 := by
  unfold inpB inpN at h
  rw [List.all_eq_true] at h
  have h1 := h k (by simpa using hk)
  unfold inpAt at h1
  rw [Bool.and_eq_true] at h1
  simpa [inB] using h1.1
theorem acc_of {s : List Int} {l : ML} {m : Int} {vs : List Int} (h : accB s l m vs = true) : aremB s l = true ∧ 0 ≤ m ∧ m.toNat < l.length ∧ vs.length = (l.getD m.toNat noM).2.1.length ∧ metB s (l.getD m.toNat noM) = true := by
  unfold accB at h
  simp only [Bool.and_eq_true] at h
  obtain ⟨⟨⟨h1, h2⟩, h3⟩, _⟩ := h
  have h2' : 0 ≤ m ∧ m ≤ (l.length : Int) - 1 := by simpa [inB] using h2
  have h3' := of_decide_eq_true h3
  have hm : m.toNat < l.length := by omega
  refine ⟨h1, h2'.1, hm, by omega, ?_⟩
  unfold aremB allM at h1
  simp only [Bool.and_eq_true] at h1
  have h4 := h1.1.1
  rw [List.all_eq_true] at h4
  exact h4 m.toNat (by simpa using hm)
theorem fact_of {s : List Int} {fs : FL} (h : areB s fs = true) {k : Nat} (hk : k < fs.length) : ((fs.getD k (0, [])).2.length : Int) = s.getD (fs.getD k (0, [])).1.toNat 0 := by
  unfold areB allOk at h
  simp only [Bool.and_eq_true] at h
  have h1 := h.1.1
  rw [List.all_eq_true] at h1
  have h2 := h1 k (by simpa using hk)
  unfold okAt factB at h2
  simp only [Bool.and_eq_true] at h2
  exact of_decide_eq_true h2.1.1.2
theorem fit_of {s : List Int} {l : ML} {m : Int} {vs : List Int} {fs : FL} (ha : accB s l m vs = true) (hf : areB s fs = true) {r li co qu : Int} {xs : List Int} (he : l.getD m.toNat noM = (r, xs, li, co, qu)) :
    vs.length = xs.length ∧ ∀ k, k < fs.length → fitOk r xs (fs.getD k (0, [])).1 (fs.getD k (0, [])).2 := by
  obtain ⟨_, _, _, h1, h2⟩ := acc_of ha
  rw [he] at h1 h2
  refine ⟨h1, fun k hk hr j hj => ?_⟩
  have h3 := fact_of hf hk
  rw [hr] at h3
  have h2' : methB s r xs li co qu = true := h2
  unfold methB at h2'
  simp only [Bool.and_eq_true] at h2'
  have h4 := inpB_at h2'.2 hj
  omega
theorem addOut_nil (w w' : World) (h : Below w.heap.size w w') : AddOut w [] (.returned (.slice none 0 0)) w' :=
  ⟨none, 0, [], fun _ => 0, rfl, ⟨World.ownsRow_nil _ _ _ _, Items.nil _ _ _⟩, h⟩
theorem addOut_lit (w w' : World) (h : Below w.heap.size w w') : AddOut w [] (.returned (.slice (some ⟨w'.heap.size, 0, none⟩) 0 0)) (w'.alloc (.cells #[] 81)) :=
  ⟨some ⟨w'.heap.size, 0, none⟩, 0, [], fun _ => 0, rfl, ⟨World.ownsRow_lit (base := w.heap.size) (e := 81) (size := 2) w' #[] 0 h.size (by unfold maxLen; omega) rfl, Items.nil _ _ _⟩, step h (below_alloc _ _)⟩
theorem AddOut.from {w w1 : World} {res : FL} {e : Ending} {w' : World} (h : AddOut w1 res e w') (hb : Below w.heap.size w w1) : AddOut w res e w' := by
  obtain ⟨A, c, cs, bs, he, ho, d⟩ := h
  exact ⟨A, c, cs, bs, he, ho.lo hb.size, step hb d⟩

end Go.Proofs.YtnmhppiccganoaaDoor

namespace Go.Proofs.YtnmhppiccganoaaDoor
open Go.ChangeShapes Go.WideShapes Go.ChangeAt Go.RowKit Go.Sort
set_option linter.unusedVariables false
set_option linter.unusedSimpArgs false

end Go.Proofs.YtnmhppiccganoaaDoor

namespace Go.Proofs.YtnmhppiccganoaaDoor
open Go.ChangeShapes Go.WideShapes Go.ChangeAt Go.RowKit Go.Sort
set_option linter.unusedVariables false
set_option linter.unusedSimpArgs false

theorem szF_filter (p : Int × List Int → Bool) (l : FL) : szF (l.filter p) ≤ szF l := by
  have h1 : sumN (l.filter p) ≤ sumN l := by
    unfold sumN
    induction l with
    | nil => simp
    | cons a t ih =>
      rw [List.filter_cons]
      split
      · simp only [List.map_cons, List.sum_cons]; omega
      · simp only [List.map_cons, List.sum_cons]; omega
  have h2 := List.length_filter_le p l
  unfold szF
  omega
theorem szF_matF {r : Int} {xs vs : List Int} {l : FL} (h : szF l ≤ 1048576) : szF (matF r xs vs l) ≤ 1048576 := Int.le_trans (szF_filter _ l) h
/-- Are the first n of the list among the facts M? -/
def hasN (M rs : FL) (n : Nat) : Bool := (List.range n).all fun k => hasB M (rs.getD k (0, [])).1 (rs.getD k (0, [])).2
theorem hasN_succ (M rs : FL) (k : Nat) : hasN M rs (k + 1) = (hasN M rs k && hasB M (rs.getD k (0, [])).1 (rs.getD k (0, [])).2) := by
  unfold hasN
  rw [List.range_succ, List.all_append]
  simp
theorem hasN_not (M rs : FL) (k n : Nat) (hk : k < n) (h : hasB M (rs.getD k (0, [])).1 (rs.getD k (0, [])).2 = false) : hasN M rs n = false := by
  unfold hasN
  rw [List.all_eq_false]
  exact ⟨k, by simpa using hk, by rw [h]; simp⟩
/-- How many facts a source tells. -/
def sizR (li : Int) (n : Nat) : Int := if li = 0 then (n : Int) else min (n : Int) li
def rspM (l : ML) (fs : FL) (m : Int) (vs : List Int) : FL := matF (l.getD m.toNat noM).1 (l.getD m.toNat noM).2.1 vs fs
def rspB (s : List Int) (l : ML) (fs : FL) (m : Int) (vs : List Int) (rs : FL) : Bool :=
  accB s l m vs && areB s fs && areB s rs && (hasN (rspM l fs m vs) rs rs.length && decide ((rs.length : Int) = sizR (l.getD m.toNat noM).2.2.1 (rspM l fs m vs).length))
theorem met_lim {s : List Int} {r : Int} {xs : List Int} {li co qu : Int} (h : methB s r xs li co qu = true) : 0 ≤ li ∧ li ≤ 9 := by
  unfold methB numB at h
  simp only [Bool.and_eq_true] at h
  have := h.1.2.1.1
  simpa [inB] using this

end Go.Proofs.YtnmhppiccganoaaDoor

namespace Go.Proofs.YtnmhppiccganoaaDoor
open Go.ChangeShapes Go.WideShapes Go.ChangeAt Go.RowKit Go.Sort
set_option linter.unusedVariables false
set_option linter.unusedSimpArgs false

/-- Block g holds methods, their inputs in blocks from lo to below hi: n j of the method j. -/
def MShape (w : World) (lo hi g m k : Nat) (n : Nat → Nat) : Prop :=
  lo ≤ g ∧ g < hi ∧ ∃ F : Nat → Value, w.rowIs g 56 m F ∧ ∀ j, j < k → ∃ A c, F (j * 5 + 1) = .slice A (n j) c ∧ (0 < n j → ∃ b mm G, A = some ⟨b, 0, none⟩ ∧ lo ≤ b ∧ b < hi ∧ n j ≤ mm ∧ w.rowIs b 3 mm G)
theorem OwnM.shape {w : World} {lo hi g m : Nat} {ms : ML} (h : OwnM w lo hi g m ms.length ms) : MShape w lo hi g m ms.length (fun j => (ms.getD j noM).2.1.length) := by
  obtain ⟨h1, h2, F, bs, hr, he, _⟩ := h
  refine ⟨h1, h2, F, hr, fun j hj => ?_⟩
  obtain ⟨_, ⟨A, c, hv, _, _, hx⟩, _⟩ := he j hj
  exact ⟨A, c, hv, fun hp => by
    obtain ⟨a, b, d, mm, G, h3, h4, _⟩ := hx hp
    exact ⟨bs j, mm, G, a, b, d, h3, h4⟩⟩
theorem rowIs_size {w : World} {b : Nat} {t : TypeId} {m m' : Nat} {F G : Nat → Value} (h : w.rowIs b t m F) (h' : w.rowIs b t m' G) : m = m' := by
  obtain ⟨c, hc, hs, _⟩ := h
  obtain ⟨c', hc', hs', _⟩ := h'
  rw [hc] at hc'
  injection hc' with hc'
  injection hc' with hc'
  subst hc'
  omega
theorem MShape.set {w : World} {lo hi g m k : Nat} {n : Nat → Nat} (h : MShape w lo hi g m k n) (i : Nat) (hi' : ∀ j, j < k → i ≠ j * 5 + 1) (v : Value) : MShape (w.setCell ⟨g, i, none⟩ v) lo hi g m k n := by
  obtain ⟨h1, h2, F, hr, he⟩ := h
  refine ⟨h1, h2, _, hr.set i v, fun j hj => ?_⟩
  obtain ⟨A, c, hv, hx⟩ := he j hj
  refine ⟨A, c, by rw [if_neg (fun e => hi' j hj e.symm)]; exact hv, fun hp => ?_⟩
  obtain ⟨b, mm, G, a1, a2, a3, a4, a5⟩ := hx hp
  refine ⟨b, mm, G, a1, a2, a3, a4, World.rowIs.of_block a5 (Below.heap_setCell _ _ _ _ ?_)⟩
  rintro rfl
  obtain ⟨c1, hc1, _⟩ := a5
  obtain ⟨c2, hc2, _⟩ := hr
  rw [hc1] at hc2
  injection hc2 with hc2
  injection hc2 with _ ht
  exact absurd ht (by decide)
theorem MShape.ints {w w' : World} {lo hi g m k b mm : Nat} {n : Nat → Nat} {G : Nat → Value} (h : MShape w lo hi g m k n) (hw : Within b (b + 1) w w') (hb : w.rowIs b 3 mm G) {G' : Nat → Value} (hb' : w'.rowIs b 3 mm G') : MShape w' lo hi g m k n := by
  obtain ⟨h1, h2, F, hr, he⟩ := h
  have ne : g ≠ b := by
    rintro rfl
    obtain ⟨c1, hc1, _⟩ := hb
    obtain ⟨c2, hc2, _⟩ := hr
    rw [hc1] at hc2
    injection hc2 with hc2
    injection hc2 with _ ht
    exact absurd ht (by decide)
  refine ⟨h1, h2, F, World.rowIs.of_block hr (hw.block g (by omega)), fun j hj => ?_⟩
  obtain ⟨A, c, hv, hx⟩ := he j hj
  refine ⟨A, c, hv, fun hp => ?_⟩
  obtain ⟨b2, mm2, G2, a1, a2, a3, a4, a5⟩ := hx hp
  by_cases e : b2 = b
  · subst e
    have := rowIs_size a5 hb
    subst this
    exact ⟨b2, mm2, G', a1, a2, a3, a4, hb'⟩
  · exact ⟨b2, mm2, G2, a1, a2, a3, a4, World.rowIs.of_block a5 (hw.block b2 (by omega))⟩

/-- Where the marks of method k begin. -/
def offM (q : Int) (ms : ML) (k : Nat) : Int := q + 4 * (k : Int) + (sumM (ms.take k) : Int)
theorem offM_succ (q : Int) (ms : ML) (k : Nat) (hk : k < ms.length) : offM q ms (k + 1) = offM q ms k + 1 + ((ms.getD k noM).2.1.length : Int) + 1 + 1 + 1 := by
  unfold offM
  rw [sumM_take ms k hk]
  omega
theorem offM_rng (q : Int) (ms : ML) (k : Nat) (hk : k ≤ ms.length) : q ≤ offM q ms k ∧ offM q ms k ≤ q + 4 * szM ms := by
  have := sumM_le ms k
  unfold offM szM
  omega

set_option maxRecDepth 100000 in
set_option maxHeartbeats 2000000 in
theorem markMethodS_any (lo hi g m c : Nat) (q : Int) (ms : ML) (hz : szM ms ≤ 1048576) (h0 : 0 ≤ q) (h1 : q ≤ 1048577) (hm : ms.length * 5 ≤ m) (w : World) (h : OwnM w lo hi g m ms.length ms) :
    Calls Tryd.prog 16 #[.slice (some ⟨g, 0, none⟩) ms.length c, .int .i64 q] w fun e w' => e = .returned (.int .i64 (offM q ms ms.length)) ∧ Within lo hi w w' := by
  have hl := szM_len hz
  have hl' : (ms.length : Int) ≤ 1048576 := by omega
  have HI := Lib.hid h.shape
  have RG := Lib.hid (offM_rng q ms)
  clear h
  go_enter Tryd.func16, Tryd.ntmps16
  go_wp2
  go_loopw [1, 5] (fun z i wr => ∃ k : Nat, k ≤ ms.length ∧ i = .int .i64 k ∧ z = .int .i64 (offM q ms k) ∧ Hid (MShape wr lo hi g m ms.length (fun j => (ms.getD j noM).2.1.length)) ∧ Hid (Within lo hi w wr)) (fun _ i _ => ms.length - (intOf i).toNat)
  case atStart => exact ⟨0, by omega, rfl, by simp [offM, sumM], HI, Lib.hid (Within.refl _ _ _)⟩
  obtain ⟨k, hk, rfl, rfl, ho, hw⟩ := hrel
  by_cases hlt : k < ms.length
  · obtain ⟨hlo, hhi, F, hr, he⟩ := ho.out
    obtain ⟨A, cc, hv, hx⟩ := he k hlt
    dsimp only at hv hx
    have OS := offM_succ q ms k hlt
    have OR := RG.out k hk
    have OR2 := RG.out (k + 1) (by omega)
    have hnl := szM_elem hz hlt
    have HXX := Lib.hid hx
    have NE := Lib.hid (show ∀ b mm G, wr.rowIs b 3 mm G → b ≠ g from fun b mm G hrow e => by
      obtain ⟨c1, hc1, _⟩ := hrow
      obtain ⟨c2, hc2, _⟩ := hr
      rw [e] at hc1
      rw [hc1] at hc2
      injection hc2 with hc2
      injection hc2 with _ ht
      exact absurd ht (by decide))
    have p1 := hr.cell (show k * 5 + 1 < m by omega)
    rw [hv] at p1
    have S0 := Lib.hid (MShape.set ho.out (k * 5) (fun j _ => by omega) (.int .i64 (offM q ms k)))
    have H1 := Lib.hid (show m ≥ k * 5 + 5 by omega)
    have P0 := hr.cell (show k * 5 < m by omega)
    have f0 := hr.frozen (k * 5)
    generalize hn : (ms.getD k noM).2.1.length = n at p1 hnl OS HXX
    have HN := Lib.hid hn
    generalize hof : offM q ms k = o at OS OR S0 ⊢
    have OSH := Lib.hid OS
    have o0 : 0 ≤ o := by omega
    have o1 : o ≤ 8388608 := by omega
    have hn' : (n : Int) ≤ 1048576 := by omega
    have HR := Lib.hid hr
    clear hv hx he hn hof OS OR OR2 hr
    by_cases hz0 : n = 0
    · have HZ := Lib.hid hz0
      subst hz0
      go_wp2_with fail
      refine (markIntS_zero A cc (o + 1) _ (by omega) (by omega)).mono ?_
      rintro e u ⟨rfl, rfl⟩
      obtain ⟨_, _, F2, hr2, _⟩ := S0.out
      have c2 := hr2.cell (show k * 5 + 2 < m by have := H1.out; omega)
      have c3 := hr2.cell (show k * 5 + 3 < m by have := H1.out; omega)
      have c4 := hr2.cell (show k * 5 + 4 < m by have := H1.out; omega)
      have f2 := hr2.frozen (k * 5 + 2)
      have f3 := hr2.frozen (k * 5 + 3)
      have f4 := hr2.frozen (k * 5 + 4)
      have S1 := Lib.hid fun v2 v3 v4 => ((S0.out.set (k * 5 + 2) (fun j _ => by omega) v2).set (k * 5 + 3) (fun j _ => by omega) v3).set (k * 5 + 4) (fun j _ => by omega) v4
      have W1 := Lib.hid fun v2 v3 v4 => (((hw.out.set (p := ⟨g, k * 5, none⟩) hlo hhi (.int .i64 o)).set (p := ⟨g, k * 5 + 2, none⟩) hlo hhi v2).set (p := ⟨g, k * 5 + 3, none⟩) hlo hhi v3).set (p := ⟨g, k * 5 + 4, none⟩) hlo hhi v4
      clear hr2
      go_wp2
      go_roundw
      case rel => exact ⟨k + 1, by omega, by go_num, by rw [OSH.out]; try (first | rfl | (congr 1; simp) | (congr 1; omega)), Lib.hid (S1.out _ _ _), Lib.hid (W1.out _ _ _)⟩
      case measure => simp [intOf]; omega
    · have hxp : 0 < n := by omega
      obtain ⟨b, mm, G, rfl, b1, b2, b3, b4⟩ := HXX.out hxp
      have hne := NE.out _ _ _ b4
      have HROW := Lib.hid (World.rowIs.of_block b4 (Below.heap_setCell wr ⟨g, k * 5, none⟩ (.int .i64 o) b hne))
      clear hz0 b4
      go_wp2_with fail
      refine (markIntS_any (some ⟨b, 0, none⟩) b cc n mm (o + 1) _ hnl (by omega) (by omega) G (fun _ => rfl) b3 (fun _ => HROW.out)).mono ?_
      rintro e u ⟨rfl, hwi, hru⟩
      have S00 := Lib.hid (MShape.ints S0.out hwi HROW.out (hru hxp))
      have W0 := Lib.hid ((hw.out.set (p := ⟨g, k * 5, none⟩) hlo hhi (.int .i64 o)).trans (hwi.mono b1 (by omega)))
      obtain ⟨_, _, F2, hr2, _⟩ := S00.out
      have c2 := hr2.cell (show k * 5 + 2 < m by have := H1.out; omega)
      have c3 := hr2.cell (show k * 5 + 3 < m by have := H1.out; omega)
      have c4 := hr2.cell (show k * 5 + 4 < m by have := H1.out; omega)
      have f2 := hr2.frozen (k * 5 + 2)
      have f3 := hr2.frozen (k * 5 + 3)
      have f4 := hr2.frozen (k * 5 + 4)
      have S1 := Lib.hid fun v2 v3 v4 => ((S00.out.set (k * 5 + 2) (fun j _ => by omega) v2).set (k * 5 + 3) (fun j _ => by omega) v3).set (k * 5 + 4) (fun j _ => by omega) v4
      have W1 := Lib.hid fun v2 v3 v4 => ((W0.out.set (p := ⟨g, k * 5 + 2, none⟩) hlo hhi v2).set (p := ⟨g, k * 5 + 3, none⟩) hlo hhi v3).set (p := ⟨g, k * 5 + 4, none⟩) hlo hhi v4
      clear hr2 hwi hru
      go_wp2
      go_roundw
      case rel => exact ⟨k + 1, by omega, by go_num, by rw [OSH.out]; try (first | rfl | (congr 1; simp) | (congr 1; omega)), Lib.hid (S1.out _ _ _), Lib.hid (W1.out _ _ _)⟩
      case measure => simp [intOf]; omega
  · obtain rfl : k = ms.length := by omega
    go_wp2
    go_ret
    exact ⟨rfl, hw.out⟩

/-- A list of facts of the call's own, which may be empty and then lie nowhere. -/
def PO (w : World) (lo hi : Nat) (A : Option Addr) (c : Nat) (fs : FL) : Prop := hi ≤ w.heap.size ∧ (fs = [] ∨ ∃ g, A = some ⟨g, 0, none⟩ ∧ PX w lo hi g (c * 2) fs)
theorem PO.step {w w' : World} {lo hi c : Nat} {A : Option Addr} {fs : FL} (h : PO w lo hi A c fs) (b : Below w.heap.size w w') : PO w' lo hi A c fs :=
  ⟨Nat.le_trans h.1 b.size, h.2.imp id fun ⟨g, e, p⟩ => ⟨g, e, p.step b⟩⟩
theorem PO.keep {w w' : World} {lo hi c : Nat} {A : Option Addr} {fs : FL} (h : PO w lo hi A c fs) (hk : ∀ b, lo ≤ b → b < hi → w'.heap[b]? = w.heap[b]?) (hs : w.heap.size ≤ w'.heap.size) : PO w' lo hi A c fs :=
  ⟨Nat.le_trans h.1 hs, h.2.imp id fun ⟨g, e, p⟩ => ⟨g, e, p.keep hk hs⟩⟩
theorem PO.rf {w : World} {lo hi c : Nat} {A : Option Addr} {fs : FL} (h : PO w lo hi A c fs) : RF w A fs := by
  rcases h.2 with rfl | ⟨g, rfl, p⟩
  · exact fun hne => absurd rfl hne
  · exact p.rf
theorem AddOut.toPO {w : World} {res : FL} {e : Ending} {w' : World} (h : AddOut w res e w') : ∃ A c, e = .returned (.slice A res.length c) ∧ PO w' w.heap.size w'.heap.size A c res ∧ Below w.heap.size w w' := by
  obtain ⟨A, c, cs, bs, he, ho, hb⟩ := h
  refine ⟨A, c, he, ⟨Nat.le_refl _, ?_⟩, hb⟩
  by_cases h0 : res = []
  · exact .inl h0
  · obtain ⟨g, cap, hv, _, _⟩ := ho.1.form (List.length_pos_iff.2 h0)
    injection hv with e1 e2 e3
    subst e1 e3
    obtain ⟨_, hc, hp⟩ := ho.to_P
    exact .inr ⟨g, rfl, hp, Nat.le_refl _, by omega⟩

set_option maxRecDepth 100000 in
theorem markFactS_nil (A : Option Addr) (c : Nat) (q : Int) (w : World) (h0 : 0 ≤ q) (h1 : q ≤ 1099511627776) :
    Calls Tryd.prog 38 #[.slice A 0 c, .int .i64 q] w fun e w' => e = .returned (.int .i64 q) ∧ w = w' := by
  go_enter Tryd.func38, Tryd.ntmps38
  go_wp2
  refine wp_loop_rounds 1 ?_
  rw [rounds_succ]
  go_wp2
  go_ret
  exact ⟨rfl, rfl⟩
theorem markFactS_o (lo hi c : Nat) (q : Int) (A : Option Addr) (fs : FL) (hz : szF fs ≤ 1048577) (h0 : 0 ≤ q) (h1 : q ≤ 1048577) (w : World) (h : PO w lo hi A c fs) :
    Calls Tryd.prog 38 #[.slice A fs.length c, .int .i64 q] w fun e w' => e = .returned (.int .i64 (q + szF fs)) ∧ RF w' A (mkK q fs fs.length) ∧ Within lo hi w w' := by
  rcases h.2 with rfl | ⟨g, rfl, p⟩
  · refine (markFactS_nil A c q w h0 (by omega)).mono ?_
    rintro e w' ⟨he, rfl⟩
    exact ⟨by rw [he]; simp [szF, sumN], fun hne => absurd rfl hne, Within.refl _ _ _⟩
  · refine (markFactS_any lo hi g (c * 2) c q fs hz h0 (by omega) p.2.2 w p.1).mono ?_
    rintro e w' ⟨he, ho, hw⟩
    exact ⟨he, (OwnP.facts (by rw [mkK_length]; exact ho) (by rw [mkK_length]; exact p.2.2)).mono (Nat.zero_le _) (by have := h.1; have := hw.size; omega), hw⟩

/-- Methods of the call's own that lie below block hi, whatever is made later. -/
def PM (w : World) (lo hi g m : Nat) (ms : ML) : Prop := OwnM w lo hi g m ms.length ms ∧ hi ≤ w.heap.size ∧ ms.length * 5 ≤ m
theorem OwnM.keep {w w' : World} {lo hi g m k : Nat} {ms : ML} (h : OwnM w lo hi g m k ms) (hk : ∀ b, lo ≤ b → b < hi → w'.heap[b]? = w.heap[b]?) : OwnM w' lo hi g m k ms := by
  obtain ⟨h1, h2, F, bs, hr, he, hd⟩ := h
  refine ⟨h1, h2, F, bs, World.rowIs.of_block hr (hk g h1 h2), fun j hj => ?_, hd⟩
  obtain ⟨e0, e1, e2⟩ := he j hj
  exact ⟨e0, e1.keep fun a b _ => hk _ a b, e2⟩
theorem PM.step {w w' : World} {lo hi g m : Nat} {ms : ML} (h : PM w lo hi g m ms) (b : Below w.heap.size w w') : PM w' lo hi g m ms :=
  ⟨h.1.keep fun q _ hq => b.block q (by have := h.2.1; omega), Nat.le_trans h.2.1 b.size, h.2.2⟩
theorem PM.keep {w w' : World} {lo hi g m : Nat} {ms : ML} (h : PM w lo hi g m ms) (hk : ∀ b, lo ≤ b → b < hi → w'.heap[b]? = w.heap[b]?) (hs : w.heap.size ≤ w'.heap.size) : PM w' lo hi g m ms :=
  ⟨h.1.keep hk, Nat.le_trans h.2.1 hs, h.2.2⟩
theorem PM.rm {w : World} {lo hi g m : Nat} {ms : ML} (h : PM w lo hi g m ms) : RM w (some ⟨g, 0, none⟩) ms := (h.1.meths h.2.2).mono (Nat.zero_le _) h.2.1
theorem szF_matO (s : List Int) (l : ML) (fs : FL) (m : Int) (vs : List Int) (hz : szF fs ≤ 1048576) : szF (matO s l fs m vs) ≤ 1048576 := by
  unfold matO
  split
  · exact szF_matF hz
  · simp [szF, sumN]
end Go.Proofs.YtnmhppiccganoaaDoor

namespace Go.Proofs.YtnmhppiccganoaaDoor
open Go.ChangeShapes Go.WideShapes Go.ChangeAt Go.RowKit Go.Sort
set_option linter.unusedVariables false
set_option linter.unusedSimpArgs false

/-- Accesses of the call's own in blocks from lo to below hi, nil or not. -/
def PA (w : World) (lo hi : Nat) (A : Option Addr) (fs : FL) : Prop := OL w lo hi A fs ∧ lo ≤ hi ∧ hi ≤ w.heap.size
theorem PA.keep {w w' : World} {lo hi : Nat} {A : Option Addr} {fs : FL} (h : PA w lo hi A fs) (hk : ∀ b, lo ≤ b → b < hi → w'.heap[b]? = w.heap[b]?) (hs : w.heap.size ≤ w'.heap.size) : PA w' lo hi A fs := ⟨h.1.keep hk, h.2.1, Nat.le_trans h.2.2 hs⟩
theorem PA.step {w w' : World} {lo hi : Nat} {A : Option Addr} {fs : FL} (h : PA w lo hi A fs) (b : Below w.heap.size w w') : PA w' lo hi A fs := h.keep (fun q _ hq => b.block q (by have := h.2.2; omega)) b.size
theorem PA.rl {w : World} {lo hi : Nat} {A : Option Addr} {fs : FL} (h : PA w lo hi A fs) : RF w A fs := h.1.facts.mono (Nat.zero_le _) h.2.2
theorem AddOutA.toPA {w : World} {res : FL} {e : Ending} {w' : World} (h : AddOutA w res e w') : ∃ A c, e = .returned (.slice A res.length c) ∧ PA w' w.heap.size w'.heap.size A res ∧ Below w.heap.size w w' := by
  obtain ⟨A, c, cs, bs, he, ho, hb⟩ := h
  exact ⟨A, c, he, ⟨ho.ol, hb.size, Nat.le_refl _⟩, hb⟩
end Go.Proofs.YtnmhppiccganoaaDoor

namespace Go.Proofs.YtnmhppiccganoaaDoor
open Go.ChangeShapes Go.WideShapes Go.ChangeAt Go.RowKit
set_option linter.unusedVariables false

set_option maxRecDepth 100000 in
theorem gTab : Tryd.prog.globalNamed "internal/strconv.uint64pow10" = some 0 := by kernel_rfl
set_option maxRecDepth 100000 in
theorem gTabType : (Tryd.prog.globals[0]?).map (·.type) = some 127 := by kernel_rfl
set_option maxRecDepth 100000 in
theorem cellsTab : Tryd.prog.cellsOf 127 = 20 := by kernel_rfl
set_option maxRecDepth 100000 in
theorem cellsU64 : Tryd.prog.cellsOf 119 = 1 := by kernel_rfl
set_option maxRecDepth 100000 in
theorem tabEq : (Rows.laid_internal_strconv_uint64pow10 : DataW Unit) = Lib.tabData .u64 Lib.pow10Tab := by kernel_rfl

/-- What the rows' list gives: the third variable holds the powers of ten. -/
theorem table {W : World} {n1 n2 : String} {d1 d2 : DataW Unit} (h : laidMet Tryd.prog [(n1, d1), (n2, d2), ("internal/strconv.uint64pow10", Rows.laid_internal_strconv_uint64pow10)] W) : Tab W := by
  rw [tabEq] at h
  obtain ⟨ps, ⟨_, _, _, _, _, _, _, _, _, _, ⟨_, _, _, _, _, _, _, _, _, _, ⟨g', t', cs, fuel, p, q, hg', ht', hvar, hd, _, _⟩, _⟩, _⟩, _⟩ := h
  obtain rfl := Option.some.inj (gTab.symm.trans hg')
  obtain rfl := Option.some.inj (gTabType.symm.trans ht')
  unfold Tab Lib.TabIs
  rw [hvar, ← Lib.cells_of_tab Tryd.underlying127 Tryd.underlying119 cellsU64 cellsTab hd]

/-- The cells that a datum of an array lays. -/
def cellsOfData : DataW Unit → Array Value
  | .agg parts => (parts.map fun
      | .lit (.int k n) => Value.int k n
      | _ => undef).toArray
  | _ => #[]

/-- A world for the witness: the settled one, the listed variables holding what their initialisers lay. -/
noncomputable def laidWorld (os : Os) : World :=
  let w0 := World.holding Tryd.prog os ⟨#[], #[], []⟩
  let put (h : Array Obj) (g : Nat) (cs : Array Value) : Array Obj := h.modify g fun
    | .cells _ t frozen => .cells cs t frozen
    | o => o
  let h1 := put w0.heap 0 (cellsOfData Rows.laid_internal_strconv_uint64pow10)
  let h2 := put h1 2 (cellsOfData Rows.laid_math_bits_deBruijn32tab)
  let h3 := put h2 3 (cellsOfData Rows.laid_math_bits_deBruijn64tab)
  { w0 with heap := h3 }
end Go.Proofs.YtnmhppiccganoaaDoor
