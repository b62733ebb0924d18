/- What the law of MatchesOf carries from call to call: marks on methods and on lists that may be empty. Conditions: none beyond each theorem's own. -/
import Derived.Test.YtenondgjipmhnaaRsp
import Derived.Test.YtenondgjipmhnaaMark2
namespace Go.Proofs.Ytenondgjipmhnaa
open Go.ChangeShapes Go.WideShapes Go.ChangeAt Go.RowKit Go.Sort
set_option linter.unusedVariables false
set_option linter.unusedSimpArgs false

/-- Block g holds methods, their inputs in blocks from lo to below hi: n j of the method j. -/
def MShape (w : World) (lo hi g m k : Nat) (n : Nat → Nat) : Prop :=
  lo ≤ g ∧ g < hi ∧ ∃ F : Nat → Value, w.rowIs g 28 m F ∧ ∀ j, j < k → ∃ A c, F (j * 5 + 1) = .slice A (n j) c ∧ (0 < n j → ∃ b mm G, A = some ⟨b, 0, none⟩ ∧ lo ≤ b ∧ b < hi ∧ n j ≤ mm ∧ w.rowIs b 3 mm G)
theorem OwnM.shape {w : World} {lo hi g m : Nat} {ms : ML} (h : OwnM w lo hi g m ms.length ms) : MShape w lo hi g m ms.length (fun j => (ms.getD j noM).2.1.length) := by
  obtain ⟨h1, h2, F, bs, hr, he, _⟩ := h
  refine ⟨h1, h2, F, hr, fun j hj => ?_⟩
  obtain ⟨_, ⟨A, c, hv, _, _, hx⟩, _⟩ := he j hj
  exact ⟨A, c, hv, fun hp => by
    obtain ⟨a, b, d, mm, G, h3, h4, _⟩ := hx hp
    exact ⟨bs j, mm, G, a, b, d, h3, h4⟩⟩
theorem rowIs_size {w : World} {b : Nat} {t : TypeId} {m m' : Nat} {F G : Nat → Value} (h : w.rowIs b t m F) (h' : w.rowIs b t m' G) : m = m' := by
  obtain ⟨c, hc, hs, _⟩ := h
  obtain ⟨c', hc', hs', _⟩ := h'
  rw [hc] at hc'
  injection hc' with hc'
  injection hc' with hc'
  subst hc'
  omega
theorem MShape.set {w : World} {lo hi g m k : Nat} {n : Nat → Nat} (h : MShape w lo hi g m k n) (i : Nat) (hi' : ∀ j, j < k → i ≠ j * 5 + 1) (v : Value) : MShape (w.setCell ⟨g, i, none⟩ v) lo hi g m k n := by
  obtain ⟨h1, h2, F, hr, he⟩ := h
  refine ⟨h1, h2, _, hr.set i v, fun j hj => ?_⟩
  obtain ⟨A, c, hv, hx⟩ := he j hj
  refine ⟨A, c, by rw [if_neg (fun e => hi' j hj e.symm)]; exact hv, fun hp => ?_⟩
  obtain ⟨b, mm, G, a1, a2, a3, a4, a5⟩ := hx hp
  refine ⟨b, mm, G, a1, a2, a3, a4, World.rowIs.of_block a5 (Below.heap_setCell _ _ _ _ ?_)⟩
  rintro rfl
  obtain ⟨c1, hc1, _⟩ := a5
  obtain ⟨c2, hc2, _⟩ := hr
  rw [hc1] at hc2
  injection hc2 with hc2
  injection hc2 with _ ht
  exact absurd ht (by decide)
theorem MShape.ints {w w' : World} {lo hi g m k b mm : Nat} {n : Nat → Nat} {G : Nat → Value} (h : MShape w lo hi g m k n) (hw : Within b (b + 1) w w') (hb : w.rowIs b 3 mm G) {G' : Nat → Value} (hb' : w'.rowIs b 3 mm G') : MShape w' lo hi g m k n := by
  obtain ⟨h1, h2, F, hr, he⟩ := h
  have ne : g ≠ b := by
    rintro rfl
    obtain ⟨c1, hc1, _⟩ := hb
    obtain ⟨c2, hc2, _⟩ := hr
    rw [hc1] at hc2
    injection hc2 with hc2
    injection hc2 with _ ht
    exact absurd ht (by decide)
  refine ⟨h1, h2, F, World.rowIs.of_block hr (hw.block g (by omega)), fun j hj => ?_⟩
  obtain ⟨A, c, hv, hx⟩ := he j hj
  refine ⟨A, c, hv, fun hp => ?_⟩
  obtain ⟨b2, mm2, G2, a1, a2, a3, a4, a5⟩ := hx hp
  by_cases e : b2 = b
  · subst e
    have := rowIs_size a5 hb
    subst this
    exact ⟨b2, mm2, G', a1, a2, a3, a4, hb'⟩
  · exact ⟨b2, mm2, G2, a1, a2, a3, a4, World.rowIs.of_block a5 (hw.block b2 (by omega))⟩

/-- Where the marks of method k begin. -/
def offM (q : Int) (ms : ML) (k : Nat) : Int := q + 4 * (k : Int) + (sumM (ms.take k) : Int)
theorem offM_succ (q : Int) (ms : ML) (k : Nat) (hk : k < ms.length) : offM q ms (k + 1) = offM q ms k + 1 + ((ms.getD k noM).2.1.length : Int) + 1 + 1 + 1 := by
  unfold offM
  rw [sumM_take ms k hk]
  omega
theorem offM_rng (q : Int) (ms : ML) (k : Nat) (hk : k ≤ ms.length) : q ≤ offM q ms k ∧ offM q ms k ≤ q + 4 * szM ms := by
  have := sumM_le ms k
  unfold offM szM
  omega

set_option maxRecDepth 100000 in
set_option maxHeartbeats 2000000 in
theorem markMethodS_any (lo hi g m c : Nat) (q : Int) (ms : ML) (hz : szM ms ≤ 1048576) (h0 : 0 ≤ q) (h1 : q ≤ 1048577) (hm : ms.length * 5 ≤ m) (w : World) (h : OwnM w lo hi g m ms.length ms) :
    Calls Try.prog 36 #[.slice (some ⟨g, 0, none⟩) ms.length c, .int .i64 q] w fun e w' => e = .returned (.int .i64 (offM q ms ms.length)) ∧ Within lo hi w w' := by
  have hl := szM_len hz
  have hl' : (ms.length : Int) ≤ 1048576 := by omega
  have HI := Lib.hid h.shape
  have RG := Lib.hid (offM_rng q ms)
  clear h
  go_enter Try.func36, Try.ntmps36
  go_wp2
  go_loopw [1, 5] (fun z i wr => ∃ k : Nat, k ≤ ms.length ∧ i = .int .i64 k ∧ z = .int .i64 (offM q ms k) ∧ Hid (MShape wr lo hi g m ms.length (fun j => (ms.getD j noM).2.1.length)) ∧ Hid (Within lo hi w wr)) (fun _ i _ => ms.length - (intOf i).toNat)
  case atStart => exact ⟨0, by omega, rfl, by simp [offM, sumM], HI, Lib.hid (Within.refl _ _ _)⟩
  obtain ⟨k, hk, rfl, rfl, ho, hw⟩ := hrel
  by_cases hlt : k < ms.length
  · obtain ⟨hlo, hhi, F, hr, he⟩ := ho.out
    obtain ⟨A, cc, hv, hx⟩ := he k hlt
    dsimp only at hv hx
    have OS := offM_succ q ms k hlt
    have OR := RG.out k hk
    have OR2 := RG.out (k + 1) (by omega)
    have hnl := szM_elem hz hlt
    have HXX := Lib.hid hx
    have NE := Lib.hid (show ∀ b mm G, wr.rowIs b 3 mm G → b ≠ g from fun b mm G hrow e => by
      obtain ⟨c1, hc1, _⟩ := hrow
      obtain ⟨c2, hc2, _⟩ := hr
      rw [e] at hc1
      rw [hc1] at hc2
      injection hc2 with hc2
      injection hc2 with _ ht
      exact absurd ht (by decide))
    have p1 := hr.cell (show k * 5 + 1 < m by omega)
    rw [hv] at p1
    have S0 := Lib.hid (MShape.set ho.out (k * 5) (fun j _ => by omega) (.int .i64 (offM q ms k)))
    have H1 := Lib.hid (show m ≥ k * 5 + 5 by omega)
    have P0 := hr.cell (show k * 5 < m by omega)
    have f0 := hr.frozen (k * 5)
    generalize hn : (ms.getD k noM).2.1.length = n at p1 hnl OS HXX
    have HN := Lib.hid hn
    generalize hof : offM q ms k = o at OS OR S0 ⊢
    have OSH := Lib.hid OS
    have o0 : 0 ≤ o := by omega
    have o1 : o ≤ 8388608 := by omega
    have hn' : (n : Int) ≤ 1048576 := by omega
    have HR := Lib.hid hr
    clear hv hx he hn hof OS OR OR2 hr
    by_cases hz0 : n = 0
    · have HZ := Lib.hid hz0
      subst hz0
      go_wp2_with fail
      refine (markIntS_zero A cc (o + 1) _ (by omega) (by omega)).mono ?_
      rintro e u ⟨rfl, rfl⟩
      obtain ⟨_, _, F2, hr2, _⟩ := S0.out
      have c2 := hr2.cell (show k * 5 + 2 < m by have := H1.out; omega)
      have c3 := hr2.cell (show k * 5 + 3 < m by have := H1.out; omega)
      have c4 := hr2.cell (show k * 5 + 4 < m by have := H1.out; omega)
      have f2 := hr2.frozen (k * 5 + 2)
      have f3 := hr2.frozen (k * 5 + 3)
      have f4 := hr2.frozen (k * 5 + 4)
      have S1 := Lib.hid fun v2 v3 v4 => ((S0.out.set (k * 5 + 2) (fun j _ => by omega) v2).set (k * 5 + 3) (fun j _ => by omega) v3).set (k * 5 + 4) (fun j _ => by omega) v4
      have W1 := Lib.hid fun v2 v3 v4 => (((hw.out.set (p := ⟨g, k * 5, none⟩) hlo hhi (.int .i64 o)).set (p := ⟨g, k * 5 + 2, none⟩) hlo hhi v2).set (p := ⟨g, k * 5 + 3, none⟩) hlo hhi v3).set (p := ⟨g, k * 5 + 4, none⟩) hlo hhi v4
      clear hr2
      go_wp2
      go_roundw
      case rel => exact ⟨k + 1, by omega, by go_num, by rw [OSH.out]; try (first | rfl | (congr 1; simp) | (congr 1; omega)), Lib.hid (S1.out _ _ _), Lib.hid (W1.out _ _ _)⟩
      case measure => simp [intOf]; omega
    · have hxp : 0 < n := by omega
      obtain ⟨b, mm, G, rfl, b1, b2, b3, b4⟩ := HXX.out hxp
      have hne := NE.out _ _ _ b4
      have HROW := Lib.hid (World.rowIs.of_block b4 (Below.heap_setCell wr ⟨g, k * 5, none⟩ (.int .i64 o) b hne))
      clear hz0 b4
      go_wp2_with fail
      refine (markIntS_any (some ⟨b, 0, none⟩) b cc n mm (o + 1) _ hnl (by omega) (by omega) G (fun _ => rfl) b3 (fun _ => HROW.out)).mono ?_
      rintro e u ⟨rfl, hwi, hru⟩
      have S00 := Lib.hid (MShape.ints S0.out hwi HROW.out (hru hxp))
      have W0 := Lib.hid ((hw.out.set (p := ⟨g, k * 5, none⟩) hlo hhi (.int .i64 o)).trans (hwi.mono b1 (by omega)))
      obtain ⟨_, _, F2, hr2, _⟩ := S00.out
      have c2 := hr2.cell (show k * 5 + 2 < m by have := H1.out; omega)
      have c3 := hr2.cell (show k * 5 + 3 < m by have := H1.out; omega)
      have c4 := hr2.cell (show k * 5 + 4 < m by have := H1.out; omega)
      have f2 := hr2.frozen (k * 5 + 2)
      have f3 := hr2.frozen (k * 5 + 3)
      have f4 := hr2.frozen (k * 5 + 4)
      have S1 := Lib.hid fun v2 v3 v4 => ((S00.out.set (k * 5 + 2) (fun j _ => by omega) v2).set (k * 5 + 3) (fun j _ => by omega) v3).set (k * 5 + 4) (fun j _ => by omega) v4
      have W1 := Lib.hid fun v2 v3 v4 => ((W0.out.set (p := ⟨g, k * 5 + 2, none⟩) hlo hhi v2).set (p := ⟨g, k * 5 + 3, none⟩) hlo hhi v3).set (p := ⟨g, k * 5 + 4, none⟩) hlo hhi v4
      clear hr2 hwi hru
      go_wp2
      go_roundw
      case rel => exact ⟨k + 1, by omega, by go_num, by rw [OSH.out]; try (first | rfl | (congr 1; simp) | (congr 1; omega)), Lib.hid (S1.out _ _ _), Lib.hid (W1.out _ _ _)⟩
      case measure => simp [intOf]; omega
  · obtain rfl : k = ms.length := by omega
    go_wp2
    go_ret
    exact ⟨rfl, hw.out⟩

set_option maxRecDepth 100000 in
theorem markAccess_any (lo q0 c n m : Nat) (r q : Int) (A : Option Addr) (f0 : Nat → Value) (w : World) (hl : n ≤ 1048576) (h0 : 0 ≤ q) (h1 : q ≤ 16777216) (hA : 0 < n → A = some ⟨q0, 0, none⟩) (hnm : n ≤ m) (hq : q0 < w.heap.size) (h : 0 < n → w.rowIs q0 3 m f0) :
    Calls Try.prog 38 #[.agg #[.int .i64 r, .slice A n c], .int .i64 q] w fun e w' => e = .returned (.int .i64 (q + n)) ∧ (∀ b, b ≠ q0 → b < w.heap.size → w'.heap[b]? = w.heap[b]?) ∧ Below q0 w w' := by
  have HR := Lib.hid fun hn => World.rowIs.of_block (h hn) (Below.heap_alloc w (.cells #[.int .i64 r, .slice A n c] 44) q0 hq)
  have HA := Lib.hid hA
  have hl' : (n : Int) ≤ 1048576 := by omega
  clear h hA
  go_enter Try.func38, Try.ntmps38
  go_wp2_with fail
  refine (markIntS_any A q0 c n m q _ hl h0 (by omega) f0 HA.out hnm HR.out).mono ?_
  rintro e u ⟨rfl, hw, _⟩
  have HW := Lib.hid hw
  clear hw
  go_wp2
  go_ret
  exact ⟨rfl, fun b hb hlt => (HW.out.block b (by omega)).trans (Below.heap_alloc _ _ _ hlt), (below_alloc w _).mono (by omega) |>.trans HW.out.below⟩

/-- A list of facts of the call's own, which may be empty and then lie nowhere. -/
def PO (w : World) (lo hi : Nat) (A : Option Addr) (c : Nat) (fs : FL) : Prop := hi ≤ w.heap.size ∧ (fs = [] ∨ ∃ g, A = some ⟨g, 0, none⟩ ∧ PX w lo hi g (c * 2) fs)
theorem PO.step {w w' : World} {lo hi c : Nat} {A : Option Addr} {fs : FL} (h : PO w lo hi A c fs) (b : Below w.heap.size w w') : PO w' lo hi A c fs :=
  ⟨Nat.le_trans h.1 b.size, h.2.imp id fun ⟨g, e, p⟩ => ⟨g, e, p.step b⟩⟩
theorem PO.keep {w w' : World} {lo hi c : Nat} {A : Option Addr} {fs : FL} (h : PO w lo hi A c fs) (hk : ∀ b, lo ≤ b → b < hi → w'.heap[b]? = w.heap[b]?) (hs : w.heap.size ≤ w'.heap.size) : PO w' lo hi A c fs :=
  ⟨Nat.le_trans h.1 hs, h.2.imp id fun ⟨g, e, p⟩ => ⟨g, e, p.keep hk hs⟩⟩
theorem PO.rf {w : World} {lo hi c : Nat} {A : Option Addr} {fs : FL} (h : PO w lo hi A c fs) : RF w A fs := by
  rcases h.2 with rfl | ⟨g, rfl, p⟩
  · exact fun hne => absurd rfl hne
  · exact p.rf
theorem AddOut.toPO {w : World} {res : FL} {e : Ending} {w' : World} (h : AddOut w res e w') : ∃ A c, e = .returned (.slice A res.length c) ∧ PO w' w.heap.size w'.heap.size A c res ∧ Below w.heap.size w w' := by
  obtain ⟨A, c, cs, bs, he, ho, hb⟩ := h
  refine ⟨A, c, he, ⟨Nat.le_refl _, ?_⟩, hb⟩
  by_cases h0 : res = []
  · exact .inl h0
  · obtain ⟨g, cap, hv, _, _⟩ := ho.1.form (List.length_pos_iff.2 h0)
    injection hv with e1 e2 e3
    subst e1 e3
    obtain ⟨_, hc, hp⟩ := ho.to_P
    exact .inr ⟨g, rfl, hp, Nat.le_refl _, by omega⟩

set_option maxRecDepth 100000 in
theorem markFactS_nil (A : Option Addr) (c : Nat) (q : Int) (w : World) (h0 : 0 ≤ q) (h1 : q ≤ 1099511627776) :
    Calls Try.prog 37 #[.slice A 0 c, .int .i64 q] w fun e w' => e = .returned (.int .i64 q) ∧ w = w' := by
  go_enter Try.func37, Try.ntmps37
  go_wp2
  refine wp_loop_rounds 1 ?_
  rw [rounds_succ]
  go_wp2
  go_ret
  exact ⟨rfl, rfl⟩
theorem markFactS_o (lo hi c : Nat) (q : Int) (A : Option Addr) (fs : FL) (hz : szF fs ≤ 1048577) (h0 : 0 ≤ q) (h1 : q ≤ 1048577) (w : World) (h : PO w lo hi A c fs) :
    Calls Try.prog 37 #[.slice A fs.length c, .int .i64 q] w fun e w' => e = .returned (.int .i64 (q + szF fs)) ∧ RF w' A (mkK q fs fs.length) ∧ Within lo hi w w' := by
  rcases h.2 with rfl | ⟨g, rfl, p⟩
  · refine (markFactS_nil A c q w h0 (by omega)).mono ?_
    rintro e w' ⟨he, rfl⟩
    exact ⟨by rw [he]; simp [szF, sumN], fun hne => absurd rfl hne, Within.refl _ _ _⟩
  · refine (markFactS_any lo hi g (c * 2) c q fs hz h0 (by omega) p.2.2 w p.1).mono ?_
    rintro e w' ⟨he, ho, hw⟩
    exact ⟨he, (OwnP.facts (by rw [mkK_length]; exact ho) (by rw [mkK_length]; exact p.2.2)).mono (Nat.zero_le _) (by have := h.1; have := hw.size; omega), hw⟩

/-- Methods of the call's own that lie below block hi, whatever is made later. -/
def PM (w : World) (lo hi g m : Nat) (ms : ML) : Prop := OwnM w lo hi g m ms.length ms ∧ hi ≤ w.heap.size ∧ ms.length * 5 ≤ m
theorem OwnM.keep {w w' : World} {lo hi g m k : Nat} {ms : ML} (h : OwnM w lo hi g m k ms) (hk : ∀ b, lo ≤ b → b < hi → w'.heap[b]? = w.heap[b]?) : OwnM w' lo hi g m k ms := by
  obtain ⟨h1, h2, F, bs, hr, he, hd⟩ := h
  refine ⟨h1, h2, F, bs, World.rowIs.of_block hr (hk g h1 h2), fun j hj => ?_, hd⟩
  obtain ⟨e0, e1, e2⟩ := he j hj
  exact ⟨e0, e1.keep fun a b _ => hk _ a b, e2⟩
theorem PM.step {w w' : World} {lo hi g m : Nat} {ms : ML} (h : PM w lo hi g m ms) (b : Below w.heap.size w w') : PM w' lo hi g m ms :=
  ⟨h.1.keep fun q _ hq => b.block q (by have := h.2.1; omega), Nat.le_trans h.2.1 b.size, h.2.2⟩
theorem PM.keep {w w' : World} {lo hi g m : Nat} {ms : ML} (h : PM w lo hi g m ms) (hk : ∀ b, lo ≤ b → b < hi → w'.heap[b]? = w.heap[b]?) (hs : w.heap.size ≤ w'.heap.size) : PM w' lo hi g m ms :=
  ⟨h.1.keep hk, Nat.le_trans h.2.1 hs, h.2.2⟩
theorem PM.rm {w : World} {lo hi g m : Nat} {ms : ML} (h : PM w lo hi g m ms) : RM w (some ⟨g, 0, none⟩) ms := (h.1.meths h.2.2).mono (Nat.zero_le _) h.2.1
theorem szF_matO (s : List Int) (l : ML) (fs : FL) (m : Int) (vs : List Int) (hz : szF fs ≤ 1048576) : szF (matO s l fs m vs) ≤ 1048576 := by
  unfold matO
  split
  · exact szF_matF hz
  · simp [szF, sumN]
end Go.Proofs.Ytenondgjipmhnaa
