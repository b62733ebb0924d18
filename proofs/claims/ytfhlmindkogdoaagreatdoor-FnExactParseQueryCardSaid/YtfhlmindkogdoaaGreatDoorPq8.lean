/- Queries in memory: their size, their copy, their comparison by the law. Conditions: none beyond each theorem's own. Marks on queries. Conditions: none beyond each theorem's own. Trees of numbers in memory: what adding a number does. Conditions: none beyond each theorem's own. Trees of numbers in memory: their list. Conditions: none beyond each theorem's own. -/
import Derived.Test.YtfhlmindkogdoaaGreatDoorPq7
import Derived.Test.YtfhlmindkogdoaaGreatDoorPq2
import Derived.Deep.Trees
import Derived.Deep.RegionHeld3

namespace Go.Proofs.YtfhlmindkogdoaaGreatDoor
open Go.ChangeShapes Go.WideShapes Go.ChangeAt Go.RowKit Go.Sort
open Go.Proofs.YtfhlmindkogdoaaGreatDoor.atom
set_option linter.unusedVariables false
set_option linter.unusedSimpArgs false

section
variable {H : Type} {enc : TypeId × Value → H} {w : World}
end

/-- How many values a query holds. -/
def szQ (hs : List Int) (l : FL) : Int := (hs.length : Int) + szF l

/-- A query of the call's own: its head in block g, its atoms from block g + 1 on. -/
def QX (w : World) (g hi : Nat) (hs : List Int) (l : FL) : Prop := Row w g hs ∧ atom.PX w (g + 1) hi (g + 1) (l.length * 2) l
theorem QX.step {w w' : World} {g hi : Nat} {hs : List Int} {l : FL} (h : QX w g hi hs l) (b : Below w.heap.size w w') : QX w' g hi hs l := ⟨h.1.step b, h.2.step b⟩
theorem QX.keep {w w' : World} {g hi : Nat} {hs : List Int} {l : FL} (h : QX w g hi hs l) (hk : ∀ b, g ≤ b → b < hi → w'.heap[b]? = w.heap[b]?) (hs' : w.heap.size ≤ w'.heap.size) : QX w' g hi hs l :=
  ⟨h.1.of_block (hk g (Nat.le_refl _) (by have := h.2.1.2.1; omega)), h.2.keep (fun b h1 h2 => hk b (by omega) h2) hs'⟩
theorem QX.ri {w : World} {g hi : Nat} {hs : List Int} {l : FL} (h : QX w g hi hs l) : RI w (some ⟨g, 0, none⟩) hs := h.1.ri
theorem QX.rf {w : World} {g hi : Nat} {hs : List Int} {l : FL} (h : QX w g hi hs l) : RF w (some ⟨g + 1, 0, none⟩) l := h.2.rf
theorem QX.lt {w : World} {g hi : Nat} {hs : List Int} {l : FL} (h : QX w g hi hs l) : g + 1 < hi ∧ hi ≤ w.heap.size := ⟨h.2.1.2.1, h.2.2.1⟩

set_option maxHeartbeats 1000000 in
set_option maxRecDepth 100000 in
theorem eqQuery_b (H A H' A' : Option Addr) (ch c ch' c' : Nat) (hs : List Int) (l : FL) (hh : hs.length ≤ 1048576) (hz : szF l ≤ 1048577) (w : World) (h1 : RI w H hs) (h2 : RF w A l) (h3 : RI w H' hs) (h4 : RF w A' l) :
    Calls Tryz.prog 29 #[.agg #[.slice H hs.length ch, .slice A l.length c], .agg #[.slice H' hs.length ch', .slice A' l.length c']] w fun e w' => e = .returned (.bool true) ∧ Below w.heap.size w w' := by
  have B0 := step (below_alloc w (.cells #[.slice H hs.length ch, .slice A l.length c] 27)) (below_alloc _ (.cells #[.slice H' hs.length ch', .slice A' l.length c'] 27))
  have H1 := Lib.hid (h1.step B0)
  have H2 := Lib.hid (h2.step B0)
  have H3 := Lib.hid (h3.step B0)
  have H4 := Lib.hid (h4.step B0)
  have HB0 := Lib.hid B0
  clear h1 h2 h3 h4 B0
  go_enter Tryz.func29, Tryz.ntmps29
  go_wp2_with fail
  refine (eqIntS_r H H' ch ch' hs hh _ H1.out H3.out).mono ?_
  rintro e w1 ⟨rfl, d⟩
  have X := Box.of_new2 d
  have x1 := X.1.cell 1
  have x2 := X.2.cell 1
  simp only [List.getElem?_toArray, List.getElem?_cons_zero, List.getElem?_cons_succ] at x1 x2
  have F2 := Lib.hid (H2.out.step d)
  have F4 := Lib.hid (H4.out.step d)
  have D1 := Lib.hid (step HB0.out d)
  clear X d
  go_wp2_with fail
  refine (eqAtomS_b A A' c c' l hz _ F2.out F4.out).mono ?_
  rintro e w2 ⟨rfl, d⟩
  have D2 := Lib.hid (step D1.out d)
  clear d x1 x2
  go_wp2
  go_ret
  exact ⟨rfl, D2.out⟩
end Go.Proofs.YtfhlmindkogdoaaGreatDoor

namespace Go.Proofs.YtfhlmindkogdoaaGreatDoor
open Go.ChangeShapes Go.WideShapes Go.ChangeAt Go.RowKit Go.Sort
open Go.Proofs.YtfhlmindkogdoaaGreatDoor.atom
set_option linter.unusedVariables false
set_option linter.unusedSimpArgs false

/-- Of the memory that was there only the blocks from lo to below hi have turned. -/
structure Mk (lo hi : Nat) (w w' : World) : Prop where
  below : Below lo w w'
  above : ∀ b, hi ≤ b → b < w.heap.size → w'.heap[b]? = w.heap[b]?
theorem Mk.keep {lo hi : Nat} {w w' : World} (h : Mk lo hi w w') {b : Nat} (hb : b < lo ∨ hi ≤ b) (hlt : b < w.heap.size) : w'.heap[b]? = w.heap[b]? := by
  rcases hb with hb | hb
  · exact h.below.block b hb
  · exact h.above b hb hlt

/-- A query of the call's own: its head from block lo to below mid, its atoms from there to below hi. -/
def QO (w : World) (lo mid hi : Nat) (H A : Option Addr) (ch c : Nat) (hs : List Int) (l : FL) : Prop :=
  (∃ q, OwnV w lo mid (.slice H hs.length ch) q hs) ∧ (l = [] ∨ ∃ g m, A = some ⟨g, 0, none⟩ ∧ atom.OwnP w mid hi g m l.length l ∧ l.length * 2 ≤ m) ∧ lo ≤ mid ∧ mid ≤ hi ∧ hi ≤ w.heap.size
theorem QO.keep {w w' : World} {lo mid hi : Nat} {H A : Option Addr} {ch c : Nat} {hs : List Int} {l : FL} (h : QO w lo mid hi H A ch c hs l) (hk : ∀ b, lo ≤ b → b < hi → w'.heap[b]? = w.heap[b]?) (hz : w.heap.size ≤ w'.heap.size) : QO w' lo mid hi H A ch c hs l := by
  obtain ⟨⟨q, h1⟩, h2, h3, h4, h5⟩ := h
  refine ⟨⟨q, h1.keep fun a b _ => hk _ a (by omega)⟩, ?_, h3, h4, by omega⟩
  rcases h2 with h2 | ⟨g, m, e, h2, h6⟩
  · exact .inl h2
  · exact .inr ⟨g, m, e, h2.keep fun b a c => hk b (by omega) c, h6⟩
theorem QO.step {w w' : World} {lo mid hi : Nat} {H A : Option Addr} {ch c : Nat} {hs : List Int} {l : FL} (h : QO w lo mid hi H A ch c hs l) (d : Below w.heap.size w w') : QO w' lo mid hi H A ch c hs l :=
  h.keep (fun b _ hb => d.block b (by have := h.2.2.2.2; omega)) d.size
theorem QO.ri {w : World} {lo mid hi : Nat} {H A : Option Addr} {ch c : Nat} {hs : List Int} {l : FL} (h : QO w lo mid hi H A ch c hs l) : RI w H hs := by
  obtain ⟨⟨q, h1⟩, _, h3, h4, h5⟩ := h
  exact (h1.ints).2.2.2.mono (Nat.zero_le _) (by omega)
theorem QO.rf {w : World} {lo mid hi : Nat} {H A : Option Addr} {ch c : Nat} {hs : List Int} {l : FL} (h : QO w lo mid hi H A ch c hs l) : RF w A l := by
  obtain ⟨_, h2, h3, h4, h5⟩ := h
  rcases h2 with rfl | ⟨g, m, rfl, h2, h6⟩
  · exact fun hne => absurd rfl hne
  · exact (h2.facts h6).mono (Nat.zero_le _) h5
theorem QX.qo {w : World} {g hi : Nat} {hs : List Int} {l : FL} (h : QX w g hi hs l) (hh : hs.length ≤ 1048576) : QO w g (g + 1) hi (some ⟨g, 0, none⟩) (some ⟨g + 1, 0, none⟩) hs.length l.length hs l :=
  ⟨⟨g, OwnV.of_row h.1 (Nat.le_refl _) (Nat.lt_succ_self _) (Nat.le_refl _) (by unfold maxLen; omega)⟩, .inr ⟨g + 1, l.length * 2, rfl, h.2.1, Nat.le_refl _⟩, Nat.le_succ _, Nat.le_of_lt h.lt.1, h.lt.2⟩

set_option maxRecDepth 100000 in
theorem markAtomS_zero (A : Option Addr) (c : Nat) (q : Int) (w : World) (h0 : 0 ≤ q) (h1 : q ≤ 1099511627776) :
    Calls Tryz.prog 70 #[.slice A 0 c, .int .i64 q] w fun e w' => e = .returned (.int .i64 q) ∧ w = w' := by
  go_enter Tryz.func70, Tryz.ntmps70
  go_wp2
  refine wp_loop_rounds 1 ?_
  rw [rounds_succ]
  go_wp2
  go_ret
  exact ⟨rfl, rfl⟩

theorem mkK_nil (q : Int) (n : Nat) : mkK q [] n = [] := by simp [mkK]

/-- The marks of a list of numbers of the call's own. -/
theorem markIntS_own (lo hi q : Nat) (A : Option Addr) (c : Nat) (k : Int) (xs : List Int) (hl : xs.length ≤ 1048576) (h0 : 0 ≤ k) (h1 : k ≤ 4194304) (w : World) (hlt : hi ≤ w.heap.size) (hlo : lo ≤ hi) (h : OwnV w lo hi (.slice A xs.length c) q xs) :
    Calls Tryz.prog 31 #[.slice A xs.length c, .int .i64 k] w fun e w' => e = .returned (.int .i64 (k + xs.length)) ∧ Within lo hi w w' ∧ Ints w' lo hi A (marks k xs.length) := by
  obtain ⟨A', c', he, _, _, hx⟩ := h
  injection he with e1 e2 e3
  subst e1 e3
  by_cases hp : 0 < xs.length
  · obtain ⟨rfl, a, b, m, F, hm, hr, _⟩ := hx hp
    refine (markIntS_any _ q c xs.length m k w hl h0 (by omega) F (fun _ => rfl) hm (fun _ => hr)).mono ?_
    rintro e w' ⟨rfl, hw, hr'⟩
    refine ⟨rfl, hw.mono a (by omega), fun _ => ⟨q, 0, rfl, a, b, fun j hj => ?_⟩⟩
    rw [marks_length] at hj
    rw [Nat.zero_add, World.rowIs.cell (hr' hp) (show j < m by omega), marks_getD _ _ _ hj, if_pos hj]
  · have hz : xs.length = 0 := by omega
    rw [hz]
    refine (markIntS_zero A c k w h0 (by omega)).mono ?_
    rintro e w' ⟨rfl, rfl⟩
    exact ⟨by simp, Within.refl _ _ _, fun h => absurd rfl h⟩

/-- The marks of a list of atoms of the call's own. -/
theorem markAtomS_own (lo hi : Nat) (A : Option Addr) (c : Nat) (k : Int) (l : FL) (hz : szF l ≤ 1048576) (h0 : 0 ≤ k) (h1 : k ≤ 1048577) (w : World)
    (h : l = [] ∨ ∃ g m, A = some ⟨g, 0, none⟩ ∧ atom.OwnP w lo hi g m l.length l ∧ l.length * 2 ≤ m) :
    Calls Tryz.prog 70 #[.slice A l.length c, .int .i64 k] w fun e w' => e = .returned (.int .i64 (k + szF l)) ∧ Within lo hi w w' ∧ Facts w' lo hi A (mkK k l l.length) := by
  rcases h with rfl | ⟨g, m, rfl, hO, hm⟩
  · refine (markAtomS_zero A c k w h0 (by omega)).mono ?_
    rintro e w' ⟨rfl, rfl⟩
    exact ⟨by simp [szF, sumN], Within.refl _ _ _, by rw [mkK_nil]; exact fun h => absurd rfl h⟩
  · refine (markAtomS_any lo hi g m c k l (by omega) h0 (by omega) hm w hO).mono ?_
    rintro e w' ⟨rfl, hO', hw⟩
    exact ⟨rfl, hw, atom.OwnP.facts (by rw [mkK_length]; exact hO') (by rw [mkK_length]; exact hm)⟩

set_option maxRecDepth 100000 in
theorem markQuery_o (lo mid hi : Nat) (H A : Option Addr) (ch c : Nat) (hs : List Int) (l : FL) (k : Int) (h0 : 0 ≤ k) (h1 : k ≤ 1) (hz : szQ hs l ≤ 1048576) (w : World) (h : QO w lo mid hi H A ch c hs l) :
    Calls Tryz.prog 32 #[.agg #[.slice H hs.length ch, .slice A l.length c], .int .i64 k] w fun e w' =>
      e = .returned (.int .i64 (k + szQ hs l)) ∧ Mk lo hi w w' ∧ (Ints w' lo mid H (marks k hs.length) ∧ Facts w' mid hi A (mkK (k + hs.length) l l.length)) := by
  have hn := szF_nonneg l
  have hzh : (hs.length : Int) + szF l ≤ 1048576 := hz
  have hq := h.step (below_alloc w (.cells #[.slice H hs.length ch, .slice A l.length c] 27))
  obtain ⟨⟨q, hO⟩, hA, e1, e2, e3⟩ := hq
  have e4 := h.2.2.2.2
  have XM := Lib.hid (markIntS_own lo mid q H ch k hs (by omega) h0 (by omega) _ (by omega) e1 hO)
  have XB := Lib.hid (Box.new w #[.slice H hs.length ch, .slice A l.length c] 27)
  have HA := Lib.hid hA
  clear h hO hA
  go_enter Tryz.func32, Tryz.ntmps32
  go_wp2_with fail
  refine XM.out.mono ?_
  rintro e w1 ⟨rfl, hw, hi1⟩
  have X1 : Box w1 w.heap.size #[.slice H hs.length ch, .slice A l.length c] 27 := (hw.block _ (.inr (by omega))).trans XB.out
  have x1 := X1.cell 1
  simp only [List.getElem?_toArray, List.getElem?_cons_zero, List.getElem?_cons_succ] at x1
  have HW := Lib.hid hw
  have HI := Lib.hid hi1
  have XA := Lib.hid (markAtomS_own mid hi A c (k + hs.length) l (by omega) (by omega) (by omega) w1 (by
    rcases HA.out with h | ⟨g, m, e, h, hm⟩
    · exact .inl h
    · exact .inr ⟨g, m, e, h.keep fun b a _ => hw.block b (.inr a), hm⟩))
  have hk2 : 0 ≤ k + (hs.length : Int) := by omega
  clear X1 hw hi1
  go_wp2_with fail
  refine XA.out.mono ?_
  rintro e w2 ⟨rfl, hw, hf⟩
  have HW2 := Lib.hid hw
  have HF := Lib.hid hf
  clear hw hf x1
  go_wp2
  go_ret
  refine ⟨ret_int (by unfold szQ; omega), ⟨?_, fun b hb hlt => ?_⟩, HI.out.keep fun b _ hb => HW2.out.block b (.inl hb), HF.out⟩
  · exact ((below_alloc w _).mono (by omega)).trans (HW.out.below.trans (HW2.out.below.mono e1))
  · exact (HW2.out.block b (.inr hb)).trans ((HW.out.block b (.inr (by omega))).trans (Below.heap_alloc _ _ _ hlt))

set_option maxRecDepth 100000 in
theorem heldQuery_o (H A : Option Addr) (ch c : Nat) (hs : List Int) (l : FL) (k : Int) (h0 : 0 ≤ k) (h1 : k ≤ 1) (hz : szQ hs l ≤ 1048576) (w : World) (h : RI w H (marks k hs.length)) (h' : RF w A (mkK (k + hs.length) l l.length)) :
    Calls Tryz.prog 33 #[.agg #[.slice H hs.length ch, .slice A l.length c], .int .i64 k] w fun e w' => e = .returned (.int .i64 (k + szQ hs l)) ∧ Below w.heap.size w w' := by
  have hn := szF_nonneg l
  have hzh : (hs.length : Int) + szF l ≤ 1048576 := hz
  have HI := Lib.hid (h.step (below_alloc w (.cells #[.slice H hs.length ch, .slice A l.length c] 27)))
  have HF := Lib.hid (h'.step (below_alloc w (.cells #[.slice H hs.length ch, .slice A l.length c] 27)))
  have hk2 : 0 ≤ k + (hs.length : Int) := by omega
  have hk3 : 0 ≤ k + (hs.length : Int) + szF l := by omega
  clear h h'
  go_enter Tryz.func33, Tryz.ntmps33
  go_wp2_with fail
  refine (heldIntS_any _ _ H ch hs.length k _ (by omega) h0 (by omega) HI.out).mono ?_
  rintro e w1 ⟨rfl, rfl⟩
  go_wp2_with fail
  refine (heldAtomS_any A c (k + hs.length) l (by omega) (by omega) (by omega) _ HF.out).mono ?_
  rintro e w1 ⟨rfl, rfl⟩
  go_wp2
  go_ret
  exact ⟨ret_int (by unfold szQ; omega), below_alloc _ _⟩
end Go.Proofs.YtfhlmindkogdoaaGreatDoor

namespace Go.Proofs.YtfhlmindkogdoaaGreatDoor
open Go.ChangeShapes Go.WideShapes Go.ChangeAt Go.RowKit Go.Sort
open Go.Deep (BT)
set_option linter.unusedVariables false
set_option linter.unusedSimpArgs false

/-- The numbers of a tree in their order. -/
def tl : BT Int → List Int
  | .nil => []
  | .node _ _ x l r => tl l ++ x :: tl r
/-- The blocks of its nodes. -/
def tb : BT Int → List Nat
  | .nil => []
  | .node a _ _ l r => a :: (tb l ++ tb r)
/-- The nodes lie in memory, each in a block of its own from lo on. -/
def At (w : World) (lo : Nat) : BT Int → Prop
  | .nil => True
  | .node a o x l r => o = 0 ∧ lo ≤ a ∧ Box w a #[.int .i64 x, l.ptr, r.ptr] 116 ∧ At w lo l ∧ At w lo r
theorem At.rng {w : World} {lo : Nat} : ∀ {t : BT Int}, At w lo t → ∀ b, b ∈ tb t → lo ≤ b ∧ b < w.heap.size
  | .nil, _, b, hb => by simp [tb] at hb
  | .node a o x l r, h, b, hb => by
    obtain ⟨_, h1, h2, h3, h4⟩ := h
    simp only [tb, List.mem_cons, List.mem_append] at hb
    rcases hb with rfl | hb | hb
    · exact ⟨h1, h2.lt⟩
    · exact At.rng h3 b hb
    · exact At.rng h4 b hb
theorem At.keep {w w' : World} {lo : Nat} : ∀ {t : BT Int}, At w lo t → (∀ b, b ∈ tb t → w'.heap[b]? = w.heap[b]?) → At w' lo t
  | .nil, _, _ => trivial
  | .node a o x l r, h, hk => by
    obtain ⟨h0, h1, h2, h3, h4⟩ := h
    exact ⟨h0, h1, (hk a (by simp [tb])).trans h2, At.keep h3 fun b hb => hk b (by simp [tb, hb]), At.keep h4 fun b hb => hk b (by simp [tb, hb])⟩
theorem At.step {w w' : World} {lo : Nat} {t : BT Int} (h : At w lo t) (d : Below w.heap.size w w') : At w' lo t := h.keep fun b hb => d.block b (h.rng b hb).2

theorem ptr_form (t : BT Int) : ∃ p, t.ptr = .pointer p := by cases t <;> exact ⟨_, rfl⟩

/-- The numbers behind an addition. -/
def putT : BT Int → Int → List Int
  | .nil, x => [x]
  | .node _ _ y l r, x => if x < y then putT l x ++ y :: tl r else if y < x then tl l ++ y :: putT r x else tl l ++ y :: tl r

/-- The tree t has become t', which holds the numbers s. -/
structure Added (w w' : World) (lo : Nat) (t t' : BT Int) (s : List Int) : Prop where
  at_ : At w' lo t'
  nodup : (tb t').Nodup
  list : tl t' = s
  below : Below lo w w'
  keep : ∀ b, b < w.heap.size → b ∉ tb t → w'.heap[b]? = w.heap[b]?
  sub : ∀ b, b ∈ tb t' → b ∈ tb t ∨ w.heap.size ≤ b
def AddT (w : World) (lo : Nat) (t : BT Int) (s : List Int) (e : Ending) (w' : World) : Prop := ∃ t' : BT Int, e = .returned t'.ptr ∧ Added w w' lo t t' s

theorem nodup_node {a o : Nat} {x : Int} {l r : BT Int} (h : (tb (.node a o x l r)).Nodup) : a ∉ tb l ∧ a ∉ tb r ∧ (tb l).Nodup ∧ (tb r).Nodup ∧ ∀ b, b ∈ tb l → b ∉ tb r := by
  simp only [tb, List.nodup_cons, List.mem_append, List.nodup_append, not_or] at h
  obtain ⟨⟨h1, h2⟩, h3, h4, h5⟩ := h
  exact ⟨h1, h2, h3, h4, fun b hb hb' => h5 b hb b hb' rfl⟩
theorem node_nodup {a o : Nat} {x : Int} {l r : BT Int} (h1 : a ∉ tb l) (h2 : a ∉ tb r) (h3 : (tb l).Nodup) (h4 : (tb r).Nodup) (h5 : ∀ b, b ∈ tb l → b ∉ tb r) : (tb (.node a o x l r)).Nodup := by
  simp only [tb, List.nodup_cons, List.mem_append, List.nodup_append, not_or]
  exact ⟨⟨h1, h2⟩, h3, h4, fun b hb b' hb' e => h5 b hb (e ▸ hb')⟩

/-- The left branch is another one now. -/
theorem added_left {w w1 : World} {lo a : Nat} {y : Int} {l r l' : BT Int} {s : List Int} (h : At w lo (.node a 0 y l r)) (hn : (tb (.node a 0 y l r)).Nodup) (hA : Added w w1 lo l l' s) :
    Added w (w1.setCell ⟨a, 1, none⟩ l'.ptr) lo (.node a 0 y l r) (.node a 0 y l' r) (s ++ y :: tl r) := by
  obtain ⟨_, ha, hb, hl, hr⟩ := id h
  obtain ⟨n1, n2, n3, n4, n5⟩ := nodup_node hn
  have hrng := h.rng
  have hs := hA.below.size
  have a' : a ∉ tb l' := fun hc => by
    rcases hA.sub a hc with hc | hc
    · exact n1 hc
    · have := hb.lt; omega
  have far : ∀ b, b ≠ a → (w1.setCell ⟨a, 1, none⟩ l'.ptr).heap[b]? = w1.heap[b]? := fun b hba => Below.heap_setCell _ ⟨a, 1, none⟩ _ b hba
  have hb1 : Box w1 a #[.int .i64 y, l.ptr, r.ptr] 116 := (hA.keep a hb.lt n1).trans hb
  have hr1 : ∀ b, b ∈ tb r → w1.heap[b]? = w.heap[b]? := fun b hbr => hA.keep b (hr.rng b hbr).2 fun hc => n5 b hc hbr
  refine ⟨⟨rfl, ha, hb1.set 1 l'.ptr, hA.at_.keep fun b hbl => far b fun e => a' (e ▸ hbl), (hr.keep hr1).keep fun b hbr => far b fun e => n2 (e ▸ hbr)⟩,
    node_nodup a' n2 hA.nodup n4 fun b hbl hbr => ?_, by simp only [tl, hA.list], hA.below.setCell ha _, fun b hbw hbn => ?_, fun b hbt => ?_⟩
  · rcases hA.sub b hbl with hc | hc
    · exact n5 b hc hbr
    · have := (hr.rng b hbr).2; omega
  · simp only [tb, List.mem_cons, List.mem_append, not_or] at hbn
    exact (far b hbn.1).trans (hA.keep b hbw hbn.2.1)
  · simp only [tb, List.mem_cons, List.mem_append] at hbt ⊢
    rcases hbt with hbt | hbt | hbt
    · exact .inl (.inl hbt)
    · rcases hA.sub b hbt with hc | hc
      · exact .inl (.inr (.inl hc))
      · exact .inr hc
    · exact .inl (.inr (.inr hbt))
theorem added_right {w w1 : World} {lo a : Nat} {y : Int} {l r r' : BT Int} {s : List Int} (h : At w lo (.node a 0 y l r)) (hn : (tb (.node a 0 y l r)).Nodup) (hA : Added w w1 lo r r' s) :
    Added w (w1.setCell ⟨a, 2, none⟩ r'.ptr) lo (.node a 0 y l r) (.node a 0 y l r') (tl l ++ y :: s) := by
  obtain ⟨_, ha, hb, hl, hr⟩ := id h
  obtain ⟨n1, n2, n3, n4, n5⟩ := nodup_node hn
  have hs := hA.below.size
  have a' : a ∉ tb r' := fun hc => by
    rcases hA.sub a hc with hc | hc
    · exact n2 hc
    · have := hb.lt; omega
  have far : ∀ b, b ≠ a → (w1.setCell ⟨a, 2, none⟩ r'.ptr).heap[b]? = w1.heap[b]? := fun b hba => Below.heap_setCell _ ⟨a, 2, none⟩ _ b hba
  have hb1 : Box w1 a #[.int .i64 y, l.ptr, r.ptr] 116 := (hA.keep a hb.lt n2).trans hb
  have hl1 : ∀ b, b ∈ tb l → w1.heap[b]? = w.heap[b]? := fun b hbl => hA.keep b (hl.rng b hbl).2 fun hc => n5 b hbl hc
  refine ⟨⟨rfl, ha, hb1.set 2 r'.ptr, (hl.keep hl1).keep fun b hbl => far b fun e => n1 (e ▸ hbl), hA.at_.keep fun b hbr => far b fun e => a' (e ▸ hbr)⟩,
    node_nodup n1 a' n3 hA.nodup fun b hbl hbr => ?_, by simp only [tl, hA.list], hA.below.setCell ha _, fun b hbw hbn => ?_, fun b hbt => ?_⟩
  · rcases hA.sub b hbr with hc | hc
    · exact n5 b hbl hc
    · have := (hl.rng b hbl).2; omega
  · simp only [tb, List.mem_cons, List.mem_append, not_or] at hbn
    exact (far b hbn.1).trans (hA.keep b hbw hbn.2.2)
  · simp only [tb, List.mem_cons, List.mem_append] at hbt ⊢
    rcases hbt with hbt | hbt | hbt
    · exact .inl (.inl hbt)
    · exact .inl (.inr (.inl hbt))
    · rcases hA.sub b hbt with hc | hc
      · exact .inl (.inr (.inr hc))
      · exact .inr hc

set_option maxHeartbeats 1000000 in
set_option maxRecDepth 100000 in
theorem addTerm_any (lo : Nat) (x : Int) : ∀ (t : BT Int) (w : World), lo ≤ w.heap.size → At w lo t → (tb t).Nodup → Calls Tryz.prog 88 #[t.ptr, .int .i64 x] w (AddT w lo t (putT t x)) := by
  intro t
  induction t with
  | nil =>
    intro w hlo h hn
    have HT : Added w (w.alloc (.cells #[.int .i64 x, .pointer none, .pointer none] 116)) lo .nil (.node w.heap.size 0 x .nil .nil) [x] :=
      ⟨⟨rfl, hlo, Box.new w _ _, trivial, trivial⟩, by simp [tb], rfl, (below_alloc w _).mono hlo, fun b hb _ => Below.heap_alloc _ _ _ hb, fun b hb => by simp [tb] at hb; exact .inr (by omega)⟩
    have HH := Lib.hid HT
    clear hlo h hn HT
    show Calls Tryz.prog 88 #[.pointer none, .int .i64 x] w _
    go_enter Tryz.func88, Tryz.ntmps88
    go_wp2
    go_ret
    exact ⟨_, rfl, HH.out⟩
  | node a o y l r ihl ihr =>
    intro w hlo h hn
    obtain ⟨rfl, ha, hbx, hl, hr⟩ := id h
    obtain ⟨_, _, n3, n4, _⟩ := nodup_node hn
    have HL := Lib.hid (ihl w hlo hl n3)
    have HR := Lib.hid (ihr w hlo hr n4)
    have HAL := Lib.hid fun (w1 : World) (l' : BT Int) (s : List Int) (hA : Added w w1 lo l l' s) => added_left h hn hA
    have HAR := Lib.hid fun (w1 : World) (r' : BT Int) (s : List Int) (hA : Added w w1 lo r r' s) => added_right h hn hA
    have HBX := Lib.hid hbx
    have HN := Lib.hid (nodup_node hn)
    have HS := Lib.hid (show Added w w lo (.node a 0 y l r) (.node a 0 y l r) (tl (.node a 0 y l r)) from ⟨h, hn, rfl, Below.refl _ _, fun _ _ _ => rfl, fun b hb => .inl hb⟩)
    have g0 := hbx.cell 0
    have g1 := hbx.cell 1
    have g2 := hbx.cell 2
    simp only [List.getElem?_toArray, List.getElem?_cons_zero, List.getElem?_cons_succ] at g0 g1 g2
    clear ihl ihr hl hr n3 n4 h hn hbx
    show Calls Tryz.prog 88 #[.pointer (some ⟨a, 0, none⟩), .int .i64 x] w _
    rcases (by omega : x < y ∨ (¬ x < y ∧ y < x) ∨ (¬ x < y ∧ ¬ y < x)) with c1 | ⟨c1, c2⟩ | ⟨c1, c2⟩
    · have E := Lib.hid (show putT (.node a 0 y l r) x = putT l x ++ y :: tl r from if_pos c1)
      have C := Lib.hid (show cmpI x y = -1 by simp [cmpI, c1])
      clear c1
      go_enter Tryz.func88, Tryz.ntmps88
      go_wp2_with fail
      refine (cmpCompare_any x y _).mono ?_
      rintro e w1 ⟨he, rfl⟩
      rw [C.out] at he
      subst he
      go_wp2_with fail
      refine HL.out.mono ?_
      rintro e w1 ⟨l', rfl, hA⟩
      have b1 : Box w1 a #[.int .i64 y, l.ptr, r.ptr] 116 := (hA.keep a HBX.out.lt HN.out.1).trans HBX.out
      have q1 := b1.cell 1
      have q2 := b1.frozen 1
      simp only [List.getElem?_toArray, List.getElem?_cons_zero, List.getElem?_cons_succ] at q1
      have hA2 := HAL.out w1 l' _ hA
      obtain ⟨pp, hpp⟩ := ptr_form l'
      rw [hpp] at hA2 ⊢
      have HA := Lib.hid hA2
      clear hA hA2 b1 g0 g1 g2 hpp
      go_wp2
      go_ret
      exact ⟨.node a 0 y l' r, rfl, by rw [E.out]; exact HA.out⟩
    · have E := Lib.hid (show putT (.node a 0 y l r) x = tl l ++ y :: putT r x from (if_neg c1).trans (if_pos c2))
      have C := Lib.hid (show cmpI x y = 1 by simp [cmpI, c1, c2])
      clear c1 c2
      go_enter Tryz.func88, Tryz.ntmps88
      go_wp2_with fail
      refine (cmpCompare_any x y _).mono ?_
      rintro e w1 ⟨he, rfl⟩
      rw [C.out] at he
      subst he
      go_wp2_with fail
      refine HR.out.mono ?_
      rintro e w1 ⟨r', rfl, hA⟩
      have b1 : Box w1 a #[.int .i64 y, l.ptr, r.ptr] 116 := (hA.keep a HBX.out.lt HN.out.2.1).trans HBX.out
      have q1 := b1.cell 2
      have q2 := b1.frozen 2
      simp only [List.getElem?_toArray, List.getElem?_cons_zero, List.getElem?_cons_succ] at q1
      have hA2 := HAR.out w1 r' _ hA
      obtain ⟨pp, hpp⟩ := ptr_form r'
      rw [hpp] at hA2 ⊢
      have HA := Lib.hid hA2
      clear hA hA2 b1 g0 g1 g2 hpp
      go_wp2
      go_ret
      exact ⟨.node a 0 y l r', rfl, by rw [E.out]; exact HA.out⟩
    · have E := Lib.hid (show putT (.node a 0 y l r) x = tl (.node a 0 y l r) from (if_neg c1).trans (if_neg c2))
      have C := Lib.hid (show cmpI x y = 0 by simp [cmpI, c1, c2])
      clear c1 c2
      go_enter Tryz.func88, Tryz.ntmps88
      go_wp2_with fail
      refine (cmpCompare_any x y _).mono ?_
      rintro e w1 ⟨he, rfl⟩
      rw [C.out] at he
      subst he
      go_wp2
      go_ret
      exact ⟨.node a 0 y l r, rfl, by rw [E.out]; exact HS.out⟩
end Go.Proofs.YtfhlmindkogdoaaGreatDoor

namespace Go.Proofs.YtfhlmindkogdoaaGreatDoor
open Go.ChangeShapes Go.WideShapes Go.ChangeAt Go.RowKit Go.Sort
open Go.Deep (BT)
set_option linter.unusedVariables false
set_option linter.unusedSimpArgs false

theorem ownsRow_lo {w : World} {base base' : Nat} {e : TypeId} {size : Nat} {v : Value} {n : Nat} {cs : List Value} (h : w.ownsRow base e size v n cs) (hb : base' ≤ base) : w.ownsRow base' e size v n cs := by
  refine ⟨h.1, ?_⟩
  rcases h.2 with h2 | ⟨g, cap, cur, hv, hg, hr⟩
  · exact .inl h2
  · exact .inr ⟨g, cap, cur, hv, Nat.le_trans hb hg, hr⟩

/-- append(v, y) of one element as one step of a region that draws. -/
theorem step_pushG {P : Program} {w : World} {ops : Array Oper} {o : Oper} {a : Act} {K : Act → World → Prop} {Q : Exit → Act → World → Prop} {E : Prop} (hgd : o.guard = none) (s x : Operand) (t e : TypeId)
    (ho : o.op = .call { callee := .builtin .append, args := #[s, x], argTypes := #[t, t] })
    (i : TypeInfo) (ht : P.underlying t = some (.slice e)) (hi : P.info? e = some i) (hz : i.zero = some (.int .i64 0)) (hz1 : i.size = 1) (hz2 : i.bytes = 8)
    (base n : Nat) (v : Value) (cs : List Value) (ad : Addr) (c : Nat) (y : Value) (hs : a.eval s = v) (hx : a.eval x = .slice (some ad) 1 c) (hy : y.oneCell' = true)
    (hown : w.ownsRow base e 1 v n cs) (hbase : base ≤ w.heap.size) (hn : n + 1 ≤ 1048580)
    (hc0 : w.cell? (ad.add 0) = some y)
    (h : ∀ v' w', w'.ownsRow base e 1 v' (n + 1) (cs ++ [y]) → w.grownBy w' v.ownBlock → K (a.put o.dst v') w') :
    if Region.wanted o (yielded ops a.tmps) = true then Oper.wp P o a w K Q else E := by
  have hw : Region.wanted o (yielded ops a.tmps) = true := by simp [Region.wanted, hgd]
  rw [if_pos hw]
  refine wp_append_own (P := P) _ s x t ho base e i _ 1 8 ht hi hz hz1 hz2 rfl (by omega) v n _ hs hown ad 1 c [y] hx rfl
    (fun j u hj => by
      rcases j with _ | j
      · simp at hj; subst hj; exact hc0
      · simp at hj) (by intro u hu; simp at hu; subst hu; exact hy)
    (by unfold maxLen; omega) (by omega) hbase ?_
  intro v' w' hown' hg _
  exact h v' w' hown' hg

def ListT (w : World) (xs : List Int) (e : Ending) (w' : World) : Prop := ∃ v, e = .returned v ∧ w'.ownsRow w.heap.size 3 1 v xs.length (xs.map (Value.int .i64)) ∧ Below w.heap.size w w'

set_option maxHeartbeats 4000000 in
set_option maxRecDepth 100000 in
theorem listTerms_any (lo : Nat) : ∀ (t : BT Int) (w : World), At w lo t → (tl t).length ≤ 1048576 → Calls Tryz.prog 89 #[t.ptr] w (ListT w (tl t)) := by
  intro t
  induction t with
  | nil =>
    intro w h hn
    show Calls Tryz.prog 89 #[.pointer none] w _
    clear h hn
    go_enter Tryz.func89, Tryz.ntmps89
    go_wp2
    go_ret
    exact ⟨_, rfl, ⟨rfl, .inl ⟨rfl, rfl⟩⟩, Below.refl _ _⟩
  | node a o y l r ihl ihr =>
    intro w h hn
    obtain ⟨i0, hi, hz0, hz1, hz2⟩ := info_parts int_info
    obtain ⟨rfl, ha, hbx, hl, hr⟩ := id h
    have hlen : (tl l).length + 1 + (tl r).length ≤ 1048576 := by simp [tl] at hn; omega
    have HL := Lib.hid fun (W : World) (N : Below w.heap.size w W) => ihl W (hl.step N) (by omega)
    have HR := Lib.hid fun (W : World) (N : Below w.heap.size w W) => ihr W (hr.step N) (by omega)
    have g0 := hbx.cell 0
    have g1 := hbx.cell 1
    have g2 := hbx.cell 2
    simp only [List.getElem?_toArray, List.getElem?_cons_zero, List.getElem?_cons_succ] at g0 g1 g2
    have HT := Lib.hid fun (W : World) (N : Below w.heap.size w W) => (show W.cell? ⟨a, 0, none⟩ = some (.int .i64 y) ∧ W.cell? ⟨a, 1, none⟩ = some l.ptr ∧ W.cell? ⟨a, 2, none⟩ = some r.ptr from
      ⟨(N.cell (p := ⟨a, 0, none⟩) hbx.lt).trans g0, (N.cell (p := ⟨a, 1, none⟩) hbx.lt).trans g1, (N.cell (p := ⟨a, 2, none⟩) hbx.lt).trans g2⟩)
    have N := below_drew w
    have TL : tl (.node a 0 y l r) = (tl l ++ [y]) ++ tl r := by simp [tl]
    have HTL := Lib.hid TL
    clear ihl ihr hl hr h hn hbx TL
    obtain ⟨pl, hpl⟩ := ptr_form l
    obtain ⟨pr, hpr⟩ := ptr_form r
    rw [hpl] at HL HT g1
    rw [hpr] at HR HT g2
    generalize tl l = xl at HL HTL hlen
    generalize tl r = xr at HR HTL hlen
    rw [HTL.out]
    clear HTL hpl hpr
    show Calls Tryz.prog 89 #[.pointer (some ⟨a, 0, none⟩)] w _
    go_enter Tryz.func89, Tryz.ntmps89
    go_wp2
    go_region_held3 (fun w' => w'.cell? ⟨a, 0, none⟩ = some (.int .i64 y) ∧ w'.cell? ⟨a, 1, none⟩ = some (.pointer pl) ∧ w'.cell? ⟨a, 2, none⟩ = some (.pointer pr))
      (first
        | exact HT.out _ N
        | exact HT.out _ (N.alloc N.size _))
      (first
        | (refine step_pushG rfl _ _ _ 3 rfl i0 Tryz.underlying24 hi hz0 hz1 hz2 w.heap.size xl.length (.slice AL xl.length cL) (xl.map (Value.int .i64)) _ 1 (.int .i64 y) rfl rfl rfl (by first | exact FL.out | exact FL.out.alloc _) (by first | exact N.size | exact (N.alloc N.size _).size) (by omega) (by first | (simp [Addr.add]; done) | exact (KD.out ⟨w.heap.size, 0, none⟩ (by show w.heap.size < (w.alloc (.cells #[.int .i64 y] 3)).heap.size; simp)).trans (by show (w.alloc (.cells #[.int .i64 y] 3)).cell? ⟨w.heap.size, 0, none⟩ = _; simp)) ?_
           intro vA uA hownA hgA
           obtain ⟨AA, cA, rfl⟩ := ownsRow_form hownA
           have NN : Below w.heap.size w uA := by first | exact N.grown hgA N.size (fun k hk => (FL.out.lt k hk).1) | exact (N.alloc N.size _).grown hgA (N.alloc N.size _).size (fun k hk => (FL.out.lt k hk).1)
           have FA := Lib.hid hownA
           clear N hownA hgA
           have N := NN
           clear NN)
        | (refine step_appendR rfl _ _ _ 3 rfl i0 Tryz.underlying24 hi hz0 hz1 hz2 w.heap.size (xl.length + 1) (.slice AA (xl.length + 1) cA) (xl.map (Value.int .i64) ++ [.int .i64 y]) rfl 0 _ A2 c2 xr rfl (by exact FA.out) (by exact FG.out) N N.size (by omega) ?_
           intro vR uR hownR NR _
           have FR := Lib.hid hownR
           clear N hownR
           have N := NR
           clear NR)
        | (have FA0 := FA.out
           clear FA0
           go_at_call 89; refine (HR.out _ N).mono ?_; rintro e uG ⟨vG, rfl, hown, d⟩
           obtain ⟨A2, c2, rfl⟩ := ownsRow_form hown
           have NN : Below w.heap.size w uG := N.trans (d.mono N.size)
           obtain ⟨qG, hv⟩ := ownV_of_row hown
           have FA2 := Lib.hid (ownsRow_step FA.out d)
           clear FA
           have FA := FA2
           have FG := Lib.hid (show RI uG A2 xr from (hv.ints).2.2.2.mono (Nat.zero_le _) (Nat.le_refl _))
           clear hv FA2 N hown d
           have N := NN
           clear NN)
        | (go_at_call 89; refine (HL.out _ (by first | exact N | exact N.alloc N.size _)).mono ?_; rintro e uL ⟨vL, rfl, hown, d⟩
           obtain ⟨AL, cL, rfl⟩ := ownsRow_form hown
           have NN : Below w.heap.size w uL := by first | exact N.trans (d.mono N.size) | exact (N.alloc N.size _).trans (d.mono (N.alloc N.size _).size)
           have KD := Lib.hid fun (p : Addr) h => d.cell (p := p) h
           have FL := Lib.hid (ownsRow_lo hown (by first | exact N.size | exact (N.alloc N.size _).size))
           clear N hown d
           have N := NN
           clear NN))
    all_goals
      have FR2 : uR.ownsRow w.heap.size 3 1 vR (xl ++ [y] ++ xr).length ((xl ++ [y] ++ xr).map (Value.int .i64)) := by
        have := FR.out
        simpa [Nat.add_assoc, Nat.add_comm 1] using this
      have HR2 := Lib.hid FR2
      clear FR2
      go_wp2
      go_ret
      exact ⟨_, rfl, HR2.out, N⟩
end Go.Proofs.YtfhlmindkogdoaaGreatDoor
