/- Marks on methods and on steps. Conditions: none beyond each theorem's own. What the law on AnswerablePart carries. Conditions: none beyond each theorem's own. -/
import Derived.Test.YtighalbnpgmdfaaAp7
import Derived.Test.YtighalbnpgmdfaaAp13

namespace Go.Proofs.Ytighalbnpgmdfaa
open Go.ChangeShapes Go.WideShapes Go.ChangeAt Go.RowKit Go.Sort
set_option linter.unusedVariables false
set_option linter.unusedSimpArgs false

/-- Block g holds methods, their inputs in blocks from lo to below hi: n j of the method j. -/
def MShape (w : World) (lo hi g m k : Nat) (n : Nat → Nat) : Prop :=
  lo ≤ g ∧ g < hi ∧ ∃ F : Nat → Value, w.rowIs g 71 m F ∧ ∀ j, j < k → ∃ A c, F (j * 5 + 1) = .slice A (n j) c ∧ (0 < n j → ∃ b mm G, A = some ⟨b, 0, none⟩ ∧ lo ≤ b ∧ b < hi ∧ n j ≤ mm ∧ w.rowIs b 3 mm G)
theorem OwnM.shape {w : World} {lo hi g m : Nat} {ms : ML} (h : OwnM w lo hi g m ms.length ms) : MShape w lo hi g m ms.length (fun j => (ms.getD j noM).2.1.length) := by
  obtain ⟨h1, h2, F, bs, hr, he, _⟩ := h
  refine ⟨h1, h2, F, hr, fun j hj => ?_⟩
  obtain ⟨_, ⟨A, c, hv, _, _, hx⟩, _⟩ := he j hj
  exact ⟨A, c, hv, fun hp => by
    obtain ⟨a, b, d, mm, G, h3, h4, _⟩ := hx hp
    exact ⟨bs j, mm, G, a, b, d, h3, h4⟩⟩
theorem rowIs_size {w : World} {b : Nat} {t : TypeId} {m m' : Nat} {F G : Nat → Value} (h : w.rowIs b t m F) (h' : w.rowIs b t m' G) : m = m' := by
  obtain ⟨c, hc, hs, _⟩ := h
  obtain ⟨c', hc', hs', _⟩ := h'
  rw [hc] at hc'
  injection hc' with hc'
  injection hc' with hc'
  subst hc'
  omega
theorem MShape.set {w : World} {lo hi g m k : Nat} {n : Nat → Nat} (h : MShape w lo hi g m k n) (i : Nat) (hi' : ∀ j, j < k → i ≠ j * 5 + 1) (v : Value) : MShape (w.setCell ⟨g, i, none⟩ v) lo hi g m k n := by
  obtain ⟨h1, h2, F, hr, he⟩ := h
  refine ⟨h1, h2, _, hr.set i v, fun j hj => ?_⟩
  obtain ⟨A, c, hv, hx⟩ := he j hj
  refine ⟨A, c, by rw [if_neg (fun e => hi' j hj e.symm)]; exact hv, fun hp => ?_⟩
  obtain ⟨b, mm, G, a1, a2, a3, a4, a5⟩ := hx hp
  refine ⟨b, mm, G, a1, a2, a3, a4, World.rowIs.of_block a5 (Below.heap_setCell _ _ _ _ ?_)⟩
  rintro rfl
  obtain ⟨c1, hc1, _⟩ := a5
  obtain ⟨c2, hc2, _⟩ := hr
  rw [hc1] at hc2
  injection hc2 with hc2
  injection hc2 with _ ht
  exact absurd ht (by decide)
theorem MShape.ints {w w' : World} {lo hi g m k b mm : Nat} {n : Nat → Nat} {G : Nat → Value} (h : MShape w lo hi g m k n) (hw : Within b (b + 1) w w') (hb : w.rowIs b 3 mm G) {G' : Nat → Value} (hb' : w'.rowIs b 3 mm G') : MShape w' lo hi g m k n := by
  obtain ⟨h1, h2, F, hr, he⟩ := h
  have ne : g ≠ b := by
    rintro rfl
    obtain ⟨c1, hc1, _⟩ := hb
    obtain ⟨c2, hc2, _⟩ := hr
    rw [hc1] at hc2
    injection hc2 with hc2
    injection hc2 with _ ht
    exact absurd ht (by decide)
  refine ⟨h1, h2, F, World.rowIs.of_block hr (hw.block g (by omega)), fun j hj => ?_⟩
  obtain ⟨A, c, hv, hx⟩ := he j hj
  refine ⟨A, c, hv, fun hp => ?_⟩
  obtain ⟨b2, mm2, G2, a1, a2, a3, a4, a5⟩ := hx hp
  by_cases e : b2 = b
  · subst e
    have := rowIs_size a5 hb
    subst this
    exact ⟨b2, mm2, G', a1, a2, a3, a4, hb'⟩
  · exact ⟨b2, mm2, G2, a1, a2, a3, a4, World.rowIs.of_block a5 (hw.block b2 (by omega))⟩

/-- Where the marks of method k begin. -/
def offM (q : Int) (ms : ML) (k : Nat) : Int := q + 4 * (k : Int) + (sumM (ms.take k) : Int)
theorem offM_succ (q : Int) (ms : ML) (k : Nat) (hk : k < ms.length) : offM q ms (k + 1) = offM q ms k + 1 + ((ms.getD k noM).2.1.length : Int) + 1 + 1 + 1 := by
  unfold offM
  rw [sumM_take ms k hk]
  omega
theorem offM_rng (q : Int) (ms : ML) (k : Nat) (hk : k ≤ ms.length) : q ≤ offM q ms k ∧ offM q ms k ≤ q + 4 * szM ms := by
  have := sumM_le ms k
  unfold offM szM
  omega

set_option maxRecDepth 100000 in
set_option maxHeartbeats 2000000 in
theorem markMethodS_any (lo hi g m c : Nat) (q : Int) (ms : ML) (hz : szM ms ≤ 1048576) (h0 : 0 ≤ q) (h1 : q ≤ 1048577) (hm : ms.length * 5 ≤ m) (w : World) (h : OwnM w lo hi g m ms.length ms) :
    Calls Try.prog 27 #[.slice (some ⟨g, 0, none⟩) ms.length c, .int .i64 q] w fun e w' => e = .returned (.int .i64 (offM q ms ms.length)) ∧ Within lo hi w w' := by
  have hl := szM_len hz
  have hl' : (ms.length : Int) ≤ 1048576 := by omega
  have HI := Lib.hid h.shape
  have RG := Lib.hid (offM_rng q ms)
  clear h
  go_enter Try.func27, Try.ntmps27
  go_wp2
  go_loopw [1, 5] (fun z i wr => ∃ k : Nat, k ≤ ms.length ∧ i = .int .i64 k ∧ z = .int .i64 (offM q ms k) ∧ Hid (MShape wr lo hi g m ms.length (fun j => (ms.getD j noM).2.1.length)) ∧ Hid (Within lo hi w wr)) (fun _ i _ => ms.length - (intOf i).toNat)
  case atStart => exact ⟨0, by omega, rfl, by simp [offM, sumM], HI, Lib.hid (Within.refl _ _ _)⟩
  obtain ⟨k, hk, rfl, rfl, ho, hw⟩ := hrel
  by_cases hlt : k < ms.length
  · obtain ⟨hlo, hhi, F, hr, he⟩ := ho.out
    obtain ⟨A, cc, hv, hx⟩ := he k hlt
    dsimp only at hv hx
    have OS := offM_succ q ms k hlt
    have OR := RG.out k hk
    have OR2 := RG.out (k + 1) (by omega)
    have hnl := szM_elem hz hlt
    have HXX := Lib.hid hx
    have NE := Lib.hid (show ∀ b mm G, wr.rowIs b 3 mm G → b ≠ g from fun b mm G hrow e => by
      obtain ⟨c1, hc1, _⟩ := hrow
      obtain ⟨c2, hc2, _⟩ := hr
      rw [e] at hc1
      rw [hc1] at hc2
      injection hc2 with hc2
      injection hc2 with _ ht
      exact absurd ht (by decide))
    have p1 := hr.cell (show k * 5 + 1 < m by omega)
    rw [hv] at p1
    have S0 := Lib.hid (MShape.set ho.out (k * 5) (fun j _ => by omega) (.int .i64 (offM q ms k)))
    have H1 := Lib.hid (show m ≥ k * 5 + 5 by omega)
    have P0 := hr.cell (show k * 5 < m by omega)
    have f0 := hr.frozen (k * 5)
    generalize hn : (ms.getD k noM).2.1.length = n at p1 hnl OS HXX
    have HN := Lib.hid hn
    generalize hof : offM q ms k = o at OS OR S0 ⊢
    have OSH := Lib.hid OS
    have o0 : 0 ≤ o := by omega
    have o1 : o ≤ 8388608 := by omega
    have hn' : (n : Int) ≤ 1048576 := by omega
    have HR := Lib.hid hr
    clear hv hx he hn hof OS OR OR2 hr
    by_cases hz0 : n = 0
    · have HZ := Lib.hid hz0
      subst hz0
      go_wp2_with fail
      refine (markIntS_zero A cc (o + 1) _ (by omega) (by omega)).mono ?_
      rintro e u ⟨rfl, rfl⟩
      obtain ⟨_, _, F2, hr2, _⟩ := S0.out
      have c2 := hr2.cell (show k * 5 + 2 < m by have := H1.out; omega)
      have c3 := hr2.cell (show k * 5 + 3 < m by have := H1.out; omega)
      have c4 := hr2.cell (show k * 5 + 4 < m by have := H1.out; omega)
      have f2 := hr2.frozen (k * 5 + 2)
      have f3 := hr2.frozen (k * 5 + 3)
      have f4 := hr2.frozen (k * 5 + 4)
      have S1 := Lib.hid fun v2 v3 v4 => ((S0.out.set (k * 5 + 2) (fun j _ => by omega) v2).set (k * 5 + 3) (fun j _ => by omega) v3).set (k * 5 + 4) (fun j _ => by omega) v4
      have W1 := Lib.hid fun v2 v3 v4 => (((hw.out.set (p := ⟨g, k * 5, none⟩) hlo hhi (.int .i64 o)).set (p := ⟨g, k * 5 + 2, none⟩) hlo hhi v2).set (p := ⟨g, k * 5 + 3, none⟩) hlo hhi v3).set (p := ⟨g, k * 5 + 4, none⟩) hlo hhi v4
      clear hr2
      go_wp2
      go_roundw
      case rel => exact ⟨k + 1, by omega, by go_num, by rw [OSH.out]; try (first | rfl | (congr 1; simp) | (congr 1; omega)), Lib.hid (S1.out _ _ _), Lib.hid (W1.out _ _ _)⟩
      case measure => simp [intOf]; omega
    · have hxp : 0 < n := by omega
      obtain ⟨b, mm, G, rfl, b1, b2, b3, b4⟩ := HXX.out hxp
      have hne := NE.out _ _ _ b4
      have HROW := Lib.hid (World.rowIs.of_block b4 (Below.heap_setCell wr ⟨g, k * 5, none⟩ (.int .i64 o) b hne))
      clear hz0 b4
      go_wp2_with fail
      refine (markIntS_any (some ⟨b, 0, none⟩) b cc n mm (o + 1) _ hnl (by omega) (by omega) G (fun _ => rfl) b3 (fun _ => HROW.out)).mono ?_
      rintro e u ⟨rfl, hwi, hru⟩
      have S00 := Lib.hid (MShape.ints S0.out hwi HROW.out (hru hxp))
      have W0 := Lib.hid ((hw.out.set (p := ⟨g, k * 5, none⟩) hlo hhi (.int .i64 o)).trans (hwi.mono b1 (by omega)))
      obtain ⟨_, _, F2, hr2, _⟩ := S00.out
      have c2 := hr2.cell (show k * 5 + 2 < m by have := H1.out; omega)
      have c3 := hr2.cell (show k * 5 + 3 < m by have := H1.out; omega)
      have c4 := hr2.cell (show k * 5 + 4 < m by have := H1.out; omega)
      have f2 := hr2.frozen (k * 5 + 2)
      have f3 := hr2.frozen (k * 5 + 3)
      have f4 := hr2.frozen (k * 5 + 4)
      have S1 := Lib.hid fun v2 v3 v4 => ((S00.out.set (k * 5 + 2) (fun j _ => by omega) v2).set (k * 5 + 3) (fun j _ => by omega) v3).set (k * 5 + 4) (fun j _ => by omega) v4
      have W1 := Lib.hid fun v2 v3 v4 => ((W0.out.set (p := ⟨g, k * 5 + 2, none⟩) hlo hhi v2).set (p := ⟨g, k * 5 + 3, none⟩) hlo hhi v3).set (p := ⟨g, k * 5 + 4, none⟩) hlo hhi v4
      clear hr2 hwi hru
      go_wp2
      go_roundw
      case rel => exact ⟨k + 1, by omega, by go_num, by rw [OSH.out]; try (first | rfl | (congr 1; simp) | (congr 1; omega)), Lib.hid (S1.out _ _ _), Lib.hid (W1.out _ _ _)⟩
      case measure => simp [intOf]; omega
  · obtain rfl : k = ms.length := by omega
    go_wp2
    go_ret
    exact ⟨rfl, hw.out⟩

/-- Methods of the call's own that lie below block hi, whatever is made later. -/
def PM (w : World) (lo hi g m : Nat) (ms : ML) : Prop := OwnM w lo hi g m ms.length ms ∧ hi ≤ w.heap.size ∧ ms.length * 5 ≤ m
theorem OwnM.keep {w w' : World} {lo hi g m k : Nat} {ms : ML} (h : OwnM w lo hi g m k ms) (hk : ∀ b, lo ≤ b → b < hi → w'.heap[b]? = w.heap[b]?) : OwnM w' lo hi g m k ms := by
  obtain ⟨h1, h2, F, bs, hr, he, hd⟩ := h
  refine ⟨h1, h2, F, bs, World.rowIs.of_block hr (hk g h1 h2), fun j hj => ?_, hd⟩
  obtain ⟨e0, e1, e2⟩ := he j hj
  exact ⟨e0, e1.keep fun a b _ => hk _ a b, e2⟩
theorem PM.step {w w' : World} {lo hi g m : Nat} {ms : ML} (h : PM w lo hi g m ms) (b : Below w.heap.size w w') : PM w' lo hi g m ms :=
  ⟨h.1.keep fun q _ hq => b.block q (by have := h.2.1; omega), Nat.le_trans h.2.1 b.size, h.2.2⟩
theorem PM.keep {w w' : World} {lo hi g m : Nat} {ms : ML} (h : PM w lo hi g m ms) (hk : ∀ b, lo ≤ b → b < hi → w'.heap[b]? = w.heap[b]?) (hs : w.heap.size ≤ w'.heap.size) : PM w' lo hi g m ms :=
  ⟨h.1.keep hk, Nat.le_trans h.2.1 hs, h.2.2⟩
theorem PM.rm {w : World} {lo hi g m : Nat} {ms : ML} (h : PM w lo hi g m ms) : RM w (some ⟨g, 0, none⟩) ms := (h.1.meths h.2.2).mono (Nat.zero_le _) h.2.1

/-- Steps of the call's own in blocks from lo to below hi, whatever is made later. -/
def PZ (w : World) (lo hi : Nat) (A : Option Addr) (l : SL) : Prop := (l = [] ∨ ∃ g m, A = some ⟨g, 0, none⟩ ∧ OwnZ w lo hi g m l.length l ∧ l.length * 2 ≤ m) ∧ hi ≤ w.heap.size ∧ lo ≤ hi
theorem PZ.keep {w w' : World} {lo hi : Nat} {A : Option Addr} {l : SL} (h : PZ w lo hi A l) (hk : ∀ b, lo ≤ b → b < hi → w'.heap[b]? = w.heap[b]?) (hs : w.heap.size ≤ w'.heap.size) : PZ w' lo hi A l :=
  ⟨h.1.imp id fun ⟨g, m, e, o, r⟩ => ⟨g, m, e, o.keep (hk g o.1 o.2.1), r⟩, Nat.le_trans h.2.1 hs, h.2.2⟩
theorem PZ.step {w w' : World} {lo hi : Nat} {A : Option Addr} {l : SL} (h : PZ w lo hi A l) (b : Below w.heap.size w w') : PZ w' lo hi A l :=
  h.keep (fun q _ hq => b.block q (by have := h.2.1; omega)) b.size
theorem PZ.rz {w : World} {lo hi : Nat} {A : Option Addr} {l : SL} (h : PZ w lo hi A l) : RZ w A l := by
  rcases h.1 with rfl | ⟨g, m, rfl, o, r⟩
  · exact RZ.nil _ _
  · exact (o.stps r).mono (Nat.zero_le _) h.2.1
theorem ZS.pz {w : World} {base c : Nat} {A : Option Addr} {l : SL} (h : ZS w base (.slice A l.length c) l) (hb : base ≤ w.heap.size) : PZ w base w.heap.size A l := by
  refine ⟨?_, Nat.le_refl _, hb⟩
  have h0 := h
  rcases h.2 with ⟨e, hn⟩ | ⟨g, cap, cur, hv, hbg, hg, hnc, hcm, hcs, htk⟩
  · exact .inl (List.length_eq_zero_iff.1 hn)
  · injection hv with e1 e2 e3
    subst e1 e3
    have hlt : g < w.heap.size := by
      rcases Nat.lt_or_ge g w.heap.size with h1 | h1
      · exact h1
      · rw [Array.getElem?_eq_none h1] at hg; cases hg
    refine .inr ⟨g, c * 2, rfl, ⟨hbg, hlt, fun i => cur.getD i undef, ⟨cur, hg, hcs, fun i hi => ?_⟩, fun j hj => ?_⟩, by omega⟩
    · simp [Array.getD_eq_getD_getElem?, show i < cur.size by omega]
    · obtain ⟨a1, a2⟩ := flatZ_at l hj
      have c1 := World.ownsRow.cells h0 (g := g) rfl _ _ a1
      have c2 := World.ownsRow.cells h0 (g := g) rfl _ _ a2
      rw [add_eq, Nat.zero_add, cell_of_row w g _ _ _ (0, 0) hg] at c1 c2
      simp only [Array.getD_eq_getD_getElem?]
      exact ⟨by rw [c1]; rfl, by rw [c2]; rfl⟩

/-- The marks from q on. -/
def mkZ (q : Int) (n : Nat) : SL := (List.range n).map fun j : Nat => (q + 2 * (j : Int), q + 2 * (j : Int) + 1)
theorem mkZ_len (q : Int) (n : Nat) : (mkZ q n).length = n := by simp [mkZ]
theorem mkZ_at (q : Int) {n k : Nat} (hk : k < n) : (mkZ q n).getD k (0, 0) = (q + 2 * (k : Int), q + 2 * (k : Int) + 1) := by simp [mkZ, List.getD_eq_getElem?_getD, hk]

set_option maxRecDepth 100000 in
set_option maxHeartbeats 1000000 in
theorem markStepS_any (lo hi : Nat) (A : Option Addr) (c : Nat) (q : Int) (l : SL) (hl : l.length ≤ 1048576) (h0 : 0 ≤ q) (h1 : q ≤ 1048577) (w : World) (h : PZ w lo hi A l) :
    Calls Try.prog 29 #[.slice A l.length c, .int .i64 q] w fun e w' => e = .returned (.int .i64 (q + 2 * (l.length : Int))) ∧ Within lo hi w w' ∧ RZ w' A (mkZ q l.length) := by
  have hl' : (l.length : Int) ≤ 1048576 := by omega
  rcases Nat.eq_zero_or_pos l.length with hz | hp
  · have E : RZ w A (mkZ q l.length) := by rw [hz]; exact RZ.nil _ _
    rw [hz] at E ⊢
    clear hl' hl h
    go_enter Try.func29, Try.ntmps29
    go_wp2
    refine wp_loop_rounds 1 ?_
    rw [rounds_succ]
    go_wp2
    go_ret
    exact ⟨ret_int (by simp), Within.refl _ _ _, E⟩
  · obtain ⟨g, m, rfl, ho, hm⟩ : ∃ g m, A = some ⟨g, 0, none⟩ ∧ OwnZ w lo hi g m l.length l ∧ l.length * 2 ≤ m := by
      rcases h.1 with h2 | h2
      · rw [h2] at hp; simp at hp
      · exact h2
    obtain ⟨hlo, hhi, F, hr, _⟩ := ho
    have HR := Lib.hid hr
    have hsz := h.2.1
    clear h hr hp
    go_enter Try.func29, Try.ntmps29
    go_wp2
    go_loopw [1, 5] (fun z i wr => ∃ k : Nat, k ≤ l.length ∧ i = .int .i64 k ∧ z = .int .i64 (q + 2 * (k : Int)) ∧ (∃ F, wr.rowIs g 68 m F ∧ ∀ j, j < k → F (j * 2) = .int .i64 (q + 2 * (j : Int)) ∧ F (j * 2 + 1) = .int .i64 (q + 2 * (j : Int) + 1)) ∧ Hid (Within lo hi w wr)) (fun _ i _ => l.length - (intOf i).toNat)
    case atStart => exact ⟨0, by omega, rfl, by simp, ⟨F, HR.out, fun j hj => by omega⟩, Lib.hid (Within.refl _ _ _)⟩
    case round =>
      obtain ⟨k, hk, rfl, rfl, ⟨F2, hr2, hf2⟩, hw⟩ := hrel
      have HF := Lib.hid hf2
      by_cases hlt : k < l.length
      · have HR2 := Lib.hid hr2
        have P0 := hr2.cell (show k * 2 < m by omega)
        have P1 := hr2.cell (show k * 2 + 1 < m by omega)
        have f0 := hr2.frozen (k * 2)
        have f1 := hr2.frozen (k * 2 + 1)
        have hk0 : (0 : Int) ≤ (k : Int) := by omega
        have hk1 : (k : Int) < (l.length : Int) := by omega
        generalize hqq : q + 2 * (k : Int) = qk
        have QQ := Lib.hid hqq
        have qk0 : 0 ≤ qk := by omega
        have qk1 : qk ≤ 4194304 := by omega
        clear hr2 hf2 hqq
        go_wp2
        go_roundw
        case rel =>
          refine ⟨k + 1, by omega, by go_num, by rw [← QQ.out]; first | (congr 1; simp; omega) | (congr 1; omega), ⟨_, (HR2.out.set (k * 2) _).set (k * 2 + 1) _, fun j hj => ?_⟩, Lib.hid ((hw.out.set (p := ⟨g, k * 2, none⟩) hlo hhi _).set (p := ⟨g, k * 2 + 1, none⟩) hlo hhi _)⟩
          by_cases e : j = k
          · subst e
            have t1 : ¬ (j * 2 = j * 2 + 1) := by omega
            simp only [if_pos, t1, if_false, ← QQ.out]
            exact ⟨trivial, trivial⟩
          · have t1 : ¬ (j * 2 = k * 2 + 1) := by omega
            have t2 : ¬ (j * 2 = k * 2) := by omega
            have t3 : ¬ (j * 2 + 1 = k * 2 + 1) := by omega
            have t4 : ¬ (j * 2 + 1 = k * 2) := by omega
            simp only [t1, t2, t3, t4, if_false]
            exact HF.out j (by omega)
        case measure => simp [intOf]; omega
      · obtain rfl : k = l.length := by omega
        have HR2 := Lib.hid hr2
        clear hr2 hf2
        go_wp2
        go_ret
        refine ⟨rfl, hw.out, fun _ => ⟨g, 0, rfl, Nat.zero_le _, by have := hw.out.size; omega, fun j hj => ?_⟩⟩
        rw [mkZ_len] at hj
        obtain ⟨a1, a2⟩ := HF.out j hj
        rw [mkZ_at q hj]
        exact ⟨by rw [Nat.zero_add, World.rowIs.cell HR2.out (show j * 2 < m by omega), a1], by rw [Nat.zero_add, World.rowIs.cell HR2.out (show j * 2 + 1 < m by omega), a2]⟩

set_option maxRecDepth 100000 in
set_option maxHeartbeats 1000000 in
theorem heldStepS_any (A : Option Addr) (c n : Nat) (q : Int) (hl : n ≤ 1048576) (h0 : 0 ≤ q) (h1 : q ≤ 1048577) (w : World) (h : RZ w A (mkZ q n)) :
    Calls Try.prog 30 #[.slice A n c, .int .i64 q] w fun e w' => e = .returned (.int .i64 (q + 2 * (n : Int))) ∧ w = w' := by
  have hl' : (n : Int) ≤ 1048576 := by omega
  have HI := Lib.hid h
  clear h
  go_enter Try.func30, Try.ntmps30
  go_wp2
  go_loop [1, 5] (fun z i => ∃ k : Nat, k ≤ n ∧ i = .int .i64 k ∧ z = .int .i64 (q + 2 * (k : Int))) (fun _ i => n - (intOf i).toNat)
  case atStart => exact ⟨0, by omega, rfl, by simp⟩
  case round =>
    obtain ⟨k, hk, rfl, rfl⟩ := hrel
    by_cases hlt : k < n
    · obtain ⟨b, off, rfl, n1, e0, e1⟩ := HI.out.at_ (by rw [mkZ_len]; exact hlt) (mkZ_at q hlt)
      have hk0 : (0 : Int) ≤ (k : Int) := by omega
      have hk1 : (k : Int) < (n : Int) := by omega
      generalize hqq : q + 2 * (k : Int) = qk at e0 e1
      have QQ := Lib.hid hqq
      have qk0 : 0 ≤ qk := by omega
      have qk1 : qk ≤ 4194304 := by omega
      clear hqq
      go_wp2
      go_round
      case rel => exact ⟨k + 1, by omega, by go_num, by rw [← QQ.out]; first | (congr 1; simp; omega) | (congr 1; omega)⟩
      case measure => simp [intOf]; omega
    · obtain rfl : k = n := by omega
      go_wp2
      go_ret
      exact ⟨rfl, rfl⟩
end Go.Proofs.Ytighalbnpgmdfaa

namespace Go.Proofs.Ytighalbnpgmdfaa
open Go.ChangeShapes Go.WideShapes Go.ChangeAt Go.RowKit Go.Sort
set_option linter.unusedVariables false
set_option linter.unusedSimpArgs false

/-- A query that is read, in blocks from lo to below hi. -/
def QW (w : World) (lo hi : Nat) (H A : Option Addr) (hs : List Int) (l : FL) : Prop := Ints w lo hi H hs ∧ Facts w lo hi A l ∧ hi ≤ w.heap.size
theorem QW.step {w w' : World} {lo hi : Nat} {H A : Option Addr} {hs : List Int} {l : FL} (h : QW w lo hi H A hs l) (b : Below w.heap.size w w') : QW w' lo hi H A hs l :=
  ⟨h.1.keep fun q _ h2 => b.block q (by have := h.2.2; omega), h.2.1.keep fun q _ h2 => b.block q (by have := h.2.2; omega), Nat.le_trans h.2.2 b.size⟩
theorem QW.qv {w : World} {lo hi : Nat} {H A : Option Addr} {hs : List Int} {l : FL} (h : QW w lo hi H A hs l) : QV w w.heap.size H A hs l :=
  ⟨h.1.mono (Nat.zero_le _) h.2.2, h.2.1.mono (Nat.zero_le _) h.2.2, Nat.le_refl _⟩
theorem QW.set2 {w : World} {lo hi g : Nat} {H A : Option Addr} {hs : List Int} {l : FL} {u v : Value} (h : QW w lo hi H A hs l) (hg : g < lo) : QW ((w.setCell ⟨g, 0, none⟩ u).setCell ⟨g, 1, none⟩ v) lo hi H A hs l :=
  ⟨(h.1.keep fun b h1 _ => Below.heap_setCell _ ⟨g, 0, none⟩ _ b (by (try simp); omega)).keep fun b h1 _ => Below.heap_setCell _ ⟨g, 1, none⟩ _ b (by (try simp); omega),
   (h.2.1.keep fun b h1 _ => Below.heap_setCell _ ⟨g, 0, none⟩ _ b (by (try simp); omega)).keep fun b h1 _ => Below.heap_setCell _ ⟨g, 1, none⟩ _ b (by (try simp); omega), by rw [size2]; exact h.2.2⟩
theorem APs.toP {w : World} {hs : List Int} {l : FL} {b : Bool} {e : Ending} {w' : World} (h : APs w hs l b e w') : ∃ H A ch c, e = .returned (.tuple #[.agg #[.slice H hs.length ch, .slice A l.length c], .bool b]) ∧ QW w' w.heap.size w'.heap.size H A hs l ∧ Below w.heap.size w w' := by
  obtain ⟨H, A, ch, c, h1, h2, h3, h4⟩ := h
  exact ⟨H, A, ch, c, h1, ⟨h2, h3, Nat.le_refl _⟩, h4⟩
theorem APo.toP {w : World} {hs : List Int} {l : FL} {b : Bool} {e : Ending} {w' : World} (h : APo w hs l b e w') : ∃ H A ch c, e = .returned (.tuple #[.agg #[.slice H hs.length ch, .slice A l.length c], .bool b]) ∧ QY w' w.heap.size w'.heap.size H A ch c hs l ∧ Below w.heap.size w w' := by
  obtain ⟨H, A, ch, c, mid, h1, h2, h3⟩ := h
  exact ⟨H, A, ch, c, h1, ⟨mid, h2⟩, h3⟩
theorem partH_three (s : List Int) (ms : ML) (hs : List Int) (l : FL) : (partH s ms hs l).length ≤ 3 := by
  unfold partH
  split
  · rename_i h
    unfold partB fineB queryB at h
    simp only [Bool.and_eq_true, decide_eq_true_eq] at h
    omega
  · simp
theorem QY.set2 {w : World} {lo hi g : Nat} {H A : Option Addr} {ch c : Nat} {hs : List Int} {l : FL} {u v : Value} (h : QY w lo hi H A ch c hs l) (hg : g < lo) : QY ((w.setCell ⟨g, 0, none⟩ u).setCell ⟨g, 1, none⟩ v) lo hi H A ch c hs l := by
  obtain ⟨mid, h⟩ := h
  exact ⟨mid, qo_set2 h hg⟩
theorem QY.qv {w : World} {lo hi : Nat} {H A : Option Addr} {ch c : Nat} {hs : List Int} {l : FL} (h : QY w lo hi H A ch c hs l) : QV w w.heap.size H A hs l := ⟨h.ri, h.rf, Nat.le_refl _⟩
end Go.Proofs.Ytighalbnpgmdfaa
