/- Trees of numbers in memory: what adding a number does. Conditions: none beyond each theorem's own. -/
import Derived.Test.YtimlpdcambmcjaaPush
import Derived.Test.YtimlpdcambmcjaaCmp
import Derived.Deep.Trees
import Derived.Deep.RegionHeld3
namespace Go.Proofs.Ytimlpdcambmcjaa
open Go.ChangeShapes Go.WideShapes Go.ChangeAt Go.RowKit Go.Sort
open Go.Deep (BT)
set_option linter.unusedVariables false
set_option linter.unusedSimpArgs false

/-- The numbers of a tree in their order. -/
def tl : BT Int → List Int
  | .nil => []
  | .node _ _ x l r => tl l ++ x :: tl r
/-- The blocks of its nodes. -/
def tb : BT Int → List Nat
  | .nil => []
  | .node a _ _ l r => a :: (tb l ++ tb r)
/-- The nodes lie in memory, each in a block of its own from lo on. -/
def At (w : World) (lo : Nat) : BT Int → Prop
  | .nil => True
  | .node a o x l r => o = 0 ∧ lo ≤ a ∧ Box w a #[.int .i64 x, l.ptr, r.ptr] 125 ∧ At w lo l ∧ At w lo r
theorem At.rng {w : World} {lo : Nat} : ∀ {t : BT Int}, At w lo t → ∀ b, b ∈ tb t → lo ≤ b ∧ b < w.heap.size
  | .nil, _, b, hb => by simp [tb] at hb
  | .node a o x l r, h, b, hb => by
    obtain ⟨_, h1, h2, h3, h4⟩ := h
    simp only [tb, List.mem_cons, List.mem_append] at hb
    rcases hb with rfl | hb | hb
    · exact ⟨h1, h2.lt⟩
    · exact At.rng h3 b hb
    · exact At.rng h4 b hb
theorem At.keep {w w' : World} {lo : Nat} : ∀ {t : BT Int}, At w lo t → (∀ b, b ∈ tb t → w'.heap[b]? = w.heap[b]?) → At w' lo t
  | .nil, _, _ => trivial
  | .node a o x l r, h, hk => by
    obtain ⟨h0, h1, h2, h3, h4⟩ := h
    exact ⟨h0, h1, (hk a (by simp [tb])).trans h2, At.keep h3 fun b hb => hk b (by simp [tb, hb]), At.keep h4 fun b hb => hk b (by simp [tb, hb])⟩
theorem At.step {w w' : World} {lo : Nat} {t : BT Int} (h : At w lo t) (d : Below w.heap.size w w') : At w' lo t := h.keep fun b hb => d.block b (h.rng b hb).2

theorem ptr_form (t : BT Int) : ∃ p, t.ptr = .pointer p := by cases t <;> exact ⟨_, rfl⟩

/-- The numbers behind an addition. -/
def putT : BT Int → Int → List Int
  | .nil, x => [x]
  | .node _ _ y l r, x => if x < y then putT l x ++ y :: tl r else if y < x then tl l ++ y :: putT r x else tl l ++ y :: tl r

/-- The tree t has become t', which holds the numbers s. -/
structure Added (w w' : World) (lo : Nat) (t t' : BT Int) (s : List Int) : Prop where
  at_ : At w' lo t'
  nodup : (tb t').Nodup
  list : tl t' = s
  below : Below lo w w'
  keep : ∀ b, b < w.heap.size → b ∉ tb t → w'.heap[b]? = w.heap[b]?
  sub : ∀ b, b ∈ tb t' → b ∈ tb t ∨ w.heap.size ≤ b
def AddT (w : World) (lo : Nat) (t : BT Int) (s : List Int) (e : Ending) (w' : World) : Prop := ∃ t' : BT Int, e = .returned t'.ptr ∧ Added w w' lo t t' s

theorem nodup_node {a o : Nat} {x : Int} {l r : BT Int} (h : (tb (.node a o x l r)).Nodup) : a ∉ tb l ∧ a ∉ tb r ∧ (tb l).Nodup ∧ (tb r).Nodup ∧ ∀ b, b ∈ tb l → b ∉ tb r := by
  simp only [tb, List.nodup_cons, List.mem_append, List.nodup_append, not_or] at h
  obtain ⟨⟨h1, h2⟩, h3, h4, h5⟩ := h
  exact ⟨h1, h2, h3, h4, fun b hb hb' => h5 b hb b hb' rfl⟩
theorem node_nodup {a o : Nat} {x : Int} {l r : BT Int} (h1 : a ∉ tb l) (h2 : a ∉ tb r) (h3 : (tb l).Nodup) (h4 : (tb r).Nodup) (h5 : ∀ b, b ∈ tb l → b ∉ tb r) : (tb (.node a o x l r)).Nodup := by
  simp only [tb, List.nodup_cons, List.mem_append, List.nodup_append, not_or]
  exact ⟨⟨h1, h2⟩, h3, h4, fun b hb b' hb' e => h5 b hb (e ▸ hb')⟩

/-- The left branch is another one now. -/
theorem added_left {w w1 : World} {lo a : Nat} {y : Int} {l r l' : BT Int} {s : List Int} (h : At w lo (.node a 0 y l r)) (hn : (tb (.node a 0 y l r)).Nodup) (hA : Added w w1 lo l l' s) :
    Added w (w1.setCell ⟨a, 1, none⟩ l'.ptr) lo (.node a 0 y l r) (.node a 0 y l' r) (s ++ y :: tl r) := by
  obtain ⟨_, ha, hb, hl, hr⟩ := id h
  obtain ⟨n1, n2, n3, n4, n5⟩ := nodup_node hn
  have hrng := h.rng
  have hs := hA.below.size
  have a' : a ∉ tb l' := fun hc => by
    rcases hA.sub a hc with hc | hc
    · exact n1 hc
    · have := hb.lt; omega
  have far : ∀ b, b ≠ a → (w1.setCell ⟨a, 1, none⟩ l'.ptr).heap[b]? = w1.heap[b]? := fun b hba => Below.heap_setCell _ ⟨a, 1, none⟩ _ b hba
  have hb1 : Box w1 a #[.int .i64 y, l.ptr, r.ptr] 125 := (hA.keep a hb.lt n1).trans hb
  have hr1 : ∀ b, b ∈ tb r → w1.heap[b]? = w.heap[b]? := fun b hbr => hA.keep b (hr.rng b hbr).2 fun hc => n5 b hc hbr
  refine ⟨⟨rfl, ha, hb1.set 1 l'.ptr, hA.at_.keep fun b hbl => far b fun e => a' (e ▸ hbl), (hr.keep hr1).keep fun b hbr => far b fun e => n2 (e ▸ hbr)⟩,
    node_nodup a' n2 hA.nodup n4 fun b hbl hbr => ?_, by simp only [tl, hA.list], hA.below.setCell ha _, fun b hbw hbn => ?_, fun b hbt => ?_⟩
  · rcases hA.sub b hbl with hc | hc
    · exact n5 b hc hbr
    · have := (hr.rng b hbr).2; omega
  · simp only [tb, List.mem_cons, List.mem_append, not_or] at hbn
    exact (far b hbn.1).trans (hA.keep b hbw hbn.2.1)
  · simp only [tb, List.mem_cons, List.mem_append] at hbt ⊢
    rcases hbt with hbt | hbt | hbt
    · exact .inl (.inl hbt)
    · rcases hA.sub b hbt with hc | hc
      · exact .inl (.inr (.inl hc))
      · exact .inr hc
    · exact .inl (.inr (.inr hbt))
theorem added_right {w w1 : World} {lo a : Nat} {y : Int} {l r r' : BT Int} {s : List Int} (h : At w lo (.node a 0 y l r)) (hn : (tb (.node a 0 y l r)).Nodup) (hA : Added w w1 lo r r' s) :
    Added w (w1.setCell ⟨a, 2, none⟩ r'.ptr) lo (.node a 0 y l r) (.node a 0 y l r') (tl l ++ y :: s) := by
  obtain ⟨_, ha, hb, hl, hr⟩ := id h
  obtain ⟨n1, n2, n3, n4, n5⟩ := nodup_node hn
  have hs := hA.below.size
  have a' : a ∉ tb r' := fun hc => by
    rcases hA.sub a hc with hc | hc
    · exact n2 hc
    · have := hb.lt; omega
  have far : ∀ b, b ≠ a → (w1.setCell ⟨a, 2, none⟩ r'.ptr).heap[b]? = w1.heap[b]? := fun b hba => Below.heap_setCell _ ⟨a, 2, none⟩ _ b hba
  have hb1 : Box w1 a #[.int .i64 y, l.ptr, r.ptr] 125 := (hA.keep a hb.lt n2).trans hb
  have hl1 : ∀ b, b ∈ tb l → w1.heap[b]? = w.heap[b]? := fun b hbl => hA.keep b (hl.rng b hbl).2 fun hc => n5 b hbl hc
  refine ⟨⟨rfl, ha, hb1.set 2 r'.ptr, (hl.keep hl1).keep fun b hbl => far b fun e => n1 (e ▸ hbl), hA.at_.keep fun b hbr => far b fun e => a' (e ▸ hbr)⟩,
    node_nodup n1 a' n3 hA.nodup fun b hbl hbr => ?_, by simp only [tl, hA.list], hA.below.setCell ha _, fun b hbw hbn => ?_, fun b hbt => ?_⟩
  · rcases hA.sub b hbr with hc | hc
    · exact n5 b hbl hc
    · have := (hl.rng b hbl).2; omega
  · simp only [tb, List.mem_cons, List.mem_append, not_or] at hbn
    exact (far b hbn.1).trans (hA.keep b hbw hbn.2.2)
  · simp only [tb, List.mem_cons, List.mem_append] at hbt ⊢
    rcases hbt with hbt | hbt | hbt
    · exact .inl (.inl hbt)
    · exact .inl (.inr (.inl hbt))
    · rcases hA.sub b hbt with hc | hc
      · exact .inl (.inr (.inr hc))
      · exact .inr hc

set_option maxHeartbeats 1000000 in
set_option maxRecDepth 100000 in
theorem addTerm_any (lo : Nat) (x : Int) : ∀ (t : BT Int) (w : World), lo ≤ w.heap.size → At w lo t → (tb t).Nodup → Calls Try.prog 84 #[t.ptr, .int .i64 x] w (AddT w lo t (putT t x)) := by
  intro t
  induction t with
  | nil =>
    intro w hlo h hn
    have HT : Added w (w.alloc (.cells #[.int .i64 x, .pointer none, .pointer none] 125)) lo .nil (.node w.heap.size 0 x .nil .nil) [x] :=
      ⟨⟨rfl, hlo, Box.new w _ _, trivial, trivial⟩, by simp [tb], rfl, (below_alloc w _).mono hlo, fun b hb _ => Below.heap_alloc _ _ _ hb, fun b hb => by simp [tb] at hb; exact .inr (by omega)⟩
    have HH := Lib.hid HT
    clear hlo h hn HT
    show Calls Try.prog 84 #[.pointer none, .int .i64 x] w _
    go_enter Try.func84, Try.ntmps84
    go_wp2
    go_ret
    exact ⟨_, rfl, HH.out⟩
  | node a o y l r ihl ihr =>
    intro w hlo h hn
    obtain ⟨rfl, ha, hbx, hl, hr⟩ := id h
    obtain ⟨_, _, n3, n4, _⟩ := nodup_node hn
    have HL := Lib.hid (ihl w hlo hl n3)
    have HR := Lib.hid (ihr w hlo hr n4)
    have HAL := Lib.hid fun (w1 : World) (l' : BT Int) (s : List Int) (hA : Added w w1 lo l l' s) => added_left h hn hA
    have HAR := Lib.hid fun (w1 : World) (r' : BT Int) (s : List Int) (hA : Added w w1 lo r r' s) => added_right h hn hA
    have HBX := Lib.hid hbx
    have HN := Lib.hid (nodup_node hn)
    have HS := Lib.hid (show Added w w lo (.node a 0 y l r) (.node a 0 y l r) (tl (.node a 0 y l r)) from ⟨h, hn, rfl, Below.refl _ _, fun _ _ _ => rfl, fun b hb => .inl hb⟩)
    have g0 := hbx.cell 0
    have g1 := hbx.cell 1
    have g2 := hbx.cell 2
    simp only [List.getElem?_toArray, List.getElem?_cons_zero, List.getElem?_cons_succ] at g0 g1 g2
    clear ihl ihr hl hr n3 n4 h hn hbx
    show Calls Try.prog 84 #[.pointer (some ⟨a, 0, none⟩), .int .i64 x] w _
    rcases (by omega : x < y ∨ (¬ x < y ∧ y < x) ∨ (¬ x < y ∧ ¬ y < x)) with c1 | ⟨c1, c2⟩ | ⟨c1, c2⟩
    · have E := Lib.hid (show putT (.node a 0 y l r) x = putT l x ++ y :: tl r from if_pos c1)
      have C := Lib.hid (show cmpI x y = -1 by simp [cmpI, c1])
      clear c1
      go_enter Try.func84, Try.ntmps84
      go_wp2_with fail
      refine (cmpCompare_any x y _).mono ?_
      rintro e w1 ⟨he, rfl⟩
      rw [C.out] at he
      subst he
      go_wp2_with fail
      refine HL.out.mono ?_
      rintro e w1 ⟨l', rfl, hA⟩
      have b1 : Box w1 a #[.int .i64 y, l.ptr, r.ptr] 125 := (hA.keep a HBX.out.lt HN.out.1).trans HBX.out
      have q1 := b1.cell 1
      have q2 := b1.frozen 1
      simp only [List.getElem?_toArray, List.getElem?_cons_zero, List.getElem?_cons_succ] at q1
      have hA2 := HAL.out w1 l' _ hA
      obtain ⟨pp, hpp⟩ := ptr_form l'
      rw [hpp] at hA2 ⊢
      have HA := Lib.hid hA2
      clear hA hA2 b1 g0 g1 g2 hpp
      go_wp2
      go_ret
      exact ⟨.node a 0 y l' r, rfl, by rw [E.out]; exact HA.out⟩
    · have E := Lib.hid (show putT (.node a 0 y l r) x = tl l ++ y :: putT r x from (if_neg c1).trans (if_pos c2))
      have C := Lib.hid (show cmpI x y = 1 by simp [cmpI, c1, c2])
      clear c1 c2
      go_enter Try.func84, Try.ntmps84
      go_wp2_with fail
      refine (cmpCompare_any x y _).mono ?_
      rintro e w1 ⟨he, rfl⟩
      rw [C.out] at he
      subst he
      go_wp2_with fail
      refine HR.out.mono ?_
      rintro e w1 ⟨r', rfl, hA⟩
      have b1 : Box w1 a #[.int .i64 y, l.ptr, r.ptr] 125 := (hA.keep a HBX.out.lt HN.out.2.1).trans HBX.out
      have q1 := b1.cell 2
      have q2 := b1.frozen 2
      simp only [List.getElem?_toArray, List.getElem?_cons_zero, List.getElem?_cons_succ] at q1
      have hA2 := HAR.out w1 r' _ hA
      obtain ⟨pp, hpp⟩ := ptr_form r'
      rw [hpp] at hA2 ⊢
      have HA := Lib.hid hA2
      clear hA hA2 b1 g0 g1 g2 hpp
      go_wp2
      go_ret
      exact ⟨.node a 0 y l r', rfl, by rw [E.out]; exact HA.out⟩
    · have E := Lib.hid (show putT (.node a 0 y l r) x = tl (.node a 0 y l r) from (if_neg c1).trans (if_neg c2))
      have C := Lib.hid (show cmpI x y = 0 by simp [cmpI, c1, c2])
      clear c1 c2
      go_enter Try.func84, Try.ntmps84
      go_wp2_with fail
      refine (cmpCompare_any x y _).mono ?_
      rintro e w1 ⟨he, rfl⟩
      rw [C.out] at he
      subst he
      go_wp2
      go_ret
      exact ⟨.node a 0 y l r, rfl, by rw [E.out]; exact HS.out⟩
end Go.Proofs.Ytimlpdcambmcjaa
