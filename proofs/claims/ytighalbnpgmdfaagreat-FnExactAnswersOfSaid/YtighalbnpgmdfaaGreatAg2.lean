/- Trees of numbers in memory: what adding a number does. Conditions: none beyond each theorem's own. Trees of numbers in memory: their list. Conditions: none beyond each theorem's own. Ascending lists of numbers: the model's insertion. Conditions: none beyond each theorem's own. -/
import Derived.Test.YtighalbnpgmdfaaGreatAg1
import Derived.Test.YtighalbnpgmdfaaGreatCmp
import Derived.Deep.Trees
import Derived.Deep.RegionHeld3

namespace Go.Proofs.YtighalbnpgmdfaaGreat
open Go.ChangeShapes Go.WideShapes Go.ChangeAt Go.RowKit Go.Sort
open Go.Deep (BT)
set_option linter.unusedVariables false
set_option linter.unusedSimpArgs false

/-- The numbers of a tree in their order. -/
def tl : BT Int → List Int
  | .nil => []
  | .node _ _ x l r => tl l ++ x :: tl r
/-- The blocks of its nodes. -/
def tb : BT Int → List Nat
  | .nil => []
  | .node a _ _ l r => a :: (tb l ++ tb r)
/-- The nodes lie in memory, each in a block of its own from lo on. -/
def At (w : World) (lo : Nat) : BT Int → Prop
  | .nil => True
  | .node a o x l r => o = 0 ∧ lo ≤ a ∧ Box w a #[.int .i64 x, l.ptr, r.ptr] 167 ∧ At w lo l ∧ At w lo r
theorem At.rng {w : World} {lo : Nat} : ∀ {t : BT Int}, At w lo t → ∀ b, b ∈ tb t → lo ≤ b ∧ b < w.heap.size
  | .nil, _, b, hb => by simp [tb] at hb
  | .node a o x l r, h, b, hb => by
    obtain ⟨_, h1, h2, h3, h4⟩ := h
    simp only [tb, List.mem_cons, List.mem_append] at hb
    rcases hb with rfl | hb | hb
    · exact ⟨h1, h2.lt⟩
    · exact At.rng h3 b hb
    · exact At.rng h4 b hb
theorem At.keep {w w' : World} {lo : Nat} : ∀ {t : BT Int}, At w lo t → (∀ b, b ∈ tb t → w'.heap[b]? = w.heap[b]?) → At w' lo t
  | .nil, _, _ => trivial
  | .node a o x l r, h, hk => by
    obtain ⟨h0, h1, h2, h3, h4⟩ := h
    exact ⟨h0, h1, (hk a (by simp [tb])).trans h2, At.keep h3 fun b hb => hk b (by simp [tb, hb]), At.keep h4 fun b hb => hk b (by simp [tb, hb])⟩
theorem At.step {w w' : World} {lo : Nat} {t : BT Int} (h : At w lo t) (d : Below w.heap.size w w') : At w' lo t := h.keep fun b hb => d.block b (h.rng b hb).2

theorem ptr_form (t : BT Int) : ∃ p, t.ptr = .pointer p := by cases t <;> exact ⟨_, rfl⟩

/-- The numbers behind an addition. -/
def putT : BT Int → Int → List Int
  | .nil, x => [x]
  | .node _ _ y l r, x => if x < y then putT l x ++ y :: tl r else if y < x then tl l ++ y :: putT r x else tl l ++ y :: tl r

/-- The tree t has become t', which holds the numbers s. -/
structure Added (w w' : World) (lo : Nat) (t t' : BT Int) (s : List Int) : Prop where
  at_ : At w' lo t'
  nodup : (tb t').Nodup
  list : tl t' = s
  below : Below lo w w'
  keep : ∀ b, b < w.heap.size → b ∉ tb t → w'.heap[b]? = w.heap[b]?
  sub : ∀ b, b ∈ tb t' → b ∈ tb t ∨ w.heap.size ≤ b
def AddT (w : World) (lo : Nat) (t : BT Int) (s : List Int) (e : Ending) (w' : World) : Prop := ∃ t' : BT Int, e = .returned t'.ptr ∧ Added w w' lo t t' s

theorem nodup_node {a o : Nat} {x : Int} {l r : BT Int} (h : (tb (.node a o x l r)).Nodup) : a ∉ tb l ∧ a ∉ tb r ∧ (tb l).Nodup ∧ (tb r).Nodup ∧ ∀ b, b ∈ tb l → b ∉ tb r := by
  simp only [tb, List.nodup_cons, List.mem_append, List.nodup_append, not_or] at h
  obtain ⟨⟨h1, h2⟩, h3, h4, h5⟩ := h
  exact ⟨h1, h2, h3, h4, fun b hb hb' => h5 b hb b hb' rfl⟩
theorem node_nodup {a o : Nat} {x : Int} {l r : BT Int} (h1 : a ∉ tb l) (h2 : a ∉ tb r) (h3 : (tb l).Nodup) (h4 : (tb r).Nodup) (h5 : ∀ b, b ∈ tb l → b ∉ tb r) : (tb (.node a o x l r)).Nodup := by
  simp only [tb, List.nodup_cons, List.mem_append, List.nodup_append, not_or]
  exact ⟨⟨h1, h2⟩, h3, h4, fun b hb b' hb' e => h5 b hb (e ▸ hb')⟩

/-- The left branch is another one now. -/
theorem added_left {w w1 : World} {lo a : Nat} {y : Int} {l r l' : BT Int} {s : List Int} (h : At w lo (.node a 0 y l r)) (hn : (tb (.node a 0 y l r)).Nodup) (hA : Added w w1 lo l l' s) :
    Added w (w1.setCell ⟨a, 1, none⟩ l'.ptr) lo (.node a 0 y l r) (.node a 0 y l' r) (s ++ y :: tl r) := by
  obtain ⟨_, ha, hb, hl, hr⟩ := id h
  obtain ⟨n1, n2, n3, n4, n5⟩ := nodup_node hn
  have hrng := h.rng
  have hs := hA.below.size
  have a' : a ∉ tb l' := fun hc => by
    rcases hA.sub a hc with hc | hc
    · exact n1 hc
    · have := hb.lt; omega
  have far : ∀ b, b ≠ a → (w1.setCell ⟨a, 1, none⟩ l'.ptr).heap[b]? = w1.heap[b]? := fun b hba => Below.heap_setCell _ ⟨a, 1, none⟩ _ b hba
  have hb1 : Box w1 a #[.int .i64 y, l.ptr, r.ptr] 167 := (hA.keep a hb.lt n1).trans hb
  have hr1 : ∀ b, b ∈ tb r → w1.heap[b]? = w.heap[b]? := fun b hbr => hA.keep b (hr.rng b hbr).2 fun hc => n5 b hc hbr
  refine ⟨⟨rfl, ha, hb1.set 1 l'.ptr, hA.at_.keep fun b hbl => far b fun e => a' (e ▸ hbl), (hr.keep hr1).keep fun b hbr => far b fun e => n2 (e ▸ hbr)⟩,
    node_nodup a' n2 hA.nodup n4 fun b hbl hbr => ?_, by simp only [tl, hA.list], hA.below.setCell ha _, fun b hbw hbn => ?_, fun b hbt => ?_⟩
  · rcases hA.sub b hbl with hc | hc
    · exact n5 b hc hbr
    · have := (hr.rng b hbr).2; omega
  · simp only [tb, List.mem_cons, List.mem_append, not_or] at hbn
    exact (far b hbn.1).trans (hA.keep b hbw hbn.2.1)
  · simp only [tb, List.mem_cons, List.mem_append] at hbt ⊢
    rcases hbt with hbt | hbt | hbt
    · exact .inl (.inl hbt)
    · rcases hA.sub b hbt with hc | hc
      · exact .inl (.inr (.inl hc))
      · exact .inr hc
    · exact .inl (.inr (.inr hbt))
theorem added_right {w w1 : World} {lo a : Nat} {y : Int} {l r r' : BT Int} {s : List Int} (h : At w lo (.node a 0 y l r)) (hn : (tb (.node a 0 y l r)).Nodup) (hA : Added w w1 lo r r' s) :
    Added w (w1.setCell ⟨a, 2, none⟩ r'.ptr) lo (.node a 0 y l r) (.node a 0 y l r') (tl l ++ y :: s) := by
  obtain ⟨_, ha, hb, hl, hr⟩ := id h
  obtain ⟨n1, n2, n3, n4, n5⟩ := nodup_node hn
  have hs := hA.below.size
  have a' : a ∉ tb r' := fun hc => by
    rcases hA.sub a hc with hc | hc
    · exact n2 hc
    · have := hb.lt; omega
  have far : ∀ b, b ≠ a → (w1.setCell ⟨a, 2, none⟩ r'.ptr).heap[b]? = w1.heap[b]? := fun b hba => Below.heap_setCell _ ⟨a, 2, none⟩ _ b hba
  have hb1 : Box w1 a #[.int .i64 y, l.ptr, r.ptr] 167 := (hA.keep a hb.lt n2).trans hb
  have hl1 : ∀ b, b ∈ tb l → w1.heap[b]? = w.heap[b]? := fun b hbl => hA.keep b (hl.rng b hbl).2 fun hc => n5 b hbl hc
  refine ⟨⟨rfl, ha, hb1.set 2 r'.ptr, (hl.keep hl1).keep fun b hbl => far b fun e => n1 (e ▸ hbl), hA.at_.keep fun b hbr => far b fun e => a' (e ▸ hbr)⟩,
    node_nodup n1 a' n3 hA.nodup fun b hbl hbr => ?_, by simp only [tl, hA.list], hA.below.setCell ha _, fun b hbw hbn => ?_, fun b hbt => ?_⟩
  · rcases hA.sub b hbr with hc | hc
    · exact n5 b hbl hc
    · have := (hl.rng b hbl).2; omega
  · simp only [tb, List.mem_cons, List.mem_append, not_or] at hbn
    exact (far b hbn.1).trans (hA.keep b hbw hbn.2.2)
  · simp only [tb, List.mem_cons, List.mem_append] at hbt ⊢
    rcases hbt with hbt | hbt | hbt
    · exact .inl (.inl hbt)
    · exact .inl (.inr (.inl hbt))
    · rcases hA.sub b hbt with hc | hc
      · exact .inl (.inr (.inr hc))
      · exact .inr hc

set_option maxHeartbeats 1000000 in
set_option maxRecDepth 100000 in
theorem addTerm_any (lo : Nat) (x : Int) : ∀ (t : BT Int) (w : World), lo ≤ w.heap.size → At w lo t → (tb t).Nodup → Calls Tryz.prog 131 #[t.ptr, .int .i64 x] w (AddT w lo t (putT t x)) := by
  intro t
  induction t with
  | nil =>
    intro w hlo h hn
    have HT : Added w (w.alloc (.cells #[.int .i64 x, .pointer none, .pointer none] 167)) lo .nil (.node w.heap.size 0 x .nil .nil) [x] :=
      ⟨⟨rfl, hlo, Box.new w _ _, trivial, trivial⟩, by simp [tb], rfl, (below_alloc w _).mono hlo, fun b hb _ => Below.heap_alloc _ _ _ hb, fun b hb => by simp [tb] at hb; exact .inr (by omega)⟩
    have HH := Lib.hid HT
    clear hlo h hn HT
    show Calls Tryz.prog 131 #[.pointer none, .int .i64 x] w _
    go_enter Tryz.func131, Tryz.ntmps131
    go_wp2
    go_ret
    exact ⟨_, rfl, HH.out⟩
  | node a o y l r ihl ihr =>
    intro w hlo h hn
    obtain ⟨rfl, ha, hbx, hl, hr⟩ := id h
    obtain ⟨_, _, n3, n4, _⟩ := nodup_node hn
    have HL := Lib.hid (ihl w hlo hl n3)
    have HR := Lib.hid (ihr w hlo hr n4)
    have HAL := Lib.hid fun (w1 : World) (l' : BT Int) (s : List Int) (hA : Added w w1 lo l l' s) => added_left h hn hA
    have HAR := Lib.hid fun (w1 : World) (r' : BT Int) (s : List Int) (hA : Added w w1 lo r r' s) => added_right h hn hA
    have HBX := Lib.hid hbx
    have HN := Lib.hid (nodup_node hn)
    have HS := Lib.hid (show Added w w lo (.node a 0 y l r) (.node a 0 y l r) (tl (.node a 0 y l r)) from ⟨h, hn, rfl, Below.refl _ _, fun _ _ _ => rfl, fun b hb => .inl hb⟩)
    have g0 := hbx.cell 0
    have g1 := hbx.cell 1
    have g2 := hbx.cell 2
    simp only [List.getElem?_toArray, List.getElem?_cons_zero, List.getElem?_cons_succ] at g0 g1 g2
    clear ihl ihr hl hr n3 n4 h hn hbx
    show Calls Tryz.prog 131 #[.pointer (some ⟨a, 0, none⟩), .int .i64 x] w _
    rcases (by omega : x < y ∨ (¬ x < y ∧ y < x) ∨ (¬ x < y ∧ ¬ y < x)) with c1 | ⟨c1, c2⟩ | ⟨c1, c2⟩
    · have E := Lib.hid (show putT (.node a 0 y l r) x = putT l x ++ y :: tl r from if_pos c1)
      have C := Lib.hid (show cmpI x y = -1 by simp [cmpI, c1])
      clear c1
      go_enter Tryz.func131, Tryz.ntmps131
      go_wp2_with fail
      refine (cmpCompare_any x y _).mono ?_
      rintro e w1 ⟨he, rfl⟩
      rw [C.out] at he
      subst he
      go_wp2_with fail
      refine HL.out.mono ?_
      rintro e w1 ⟨l', rfl, hA⟩
      have b1 : Box w1 a #[.int .i64 y, l.ptr, r.ptr] 167 := (hA.keep a HBX.out.lt HN.out.1).trans HBX.out
      have q1 := b1.cell 1
      have q2 := b1.frozen 1
      simp only [List.getElem?_toArray, List.getElem?_cons_zero, List.getElem?_cons_succ] at q1
      have hA2 := HAL.out w1 l' _ hA
      obtain ⟨pp, hpp⟩ := ptr_form l'
      rw [hpp] at hA2 ⊢
      have HA := Lib.hid hA2
      clear hA hA2 b1 g0 g1 g2 hpp
      go_wp2
      go_ret
      exact ⟨.node a 0 y l' r, rfl, by rw [E.out]; exact HA.out⟩
    · have E := Lib.hid (show putT (.node a 0 y l r) x = tl l ++ y :: putT r x from (if_neg c1).trans (if_pos c2))
      have C := Lib.hid (show cmpI x y = 1 by simp [cmpI, c1, c2])
      clear c1 c2
      go_enter Tryz.func131, Tryz.ntmps131
      go_wp2_with fail
      refine (cmpCompare_any x y _).mono ?_
      rintro e w1 ⟨he, rfl⟩
      rw [C.out] at he
      subst he
      go_wp2_with fail
      refine HR.out.mono ?_
      rintro e w1 ⟨r', rfl, hA⟩
      have b1 : Box w1 a #[.int .i64 y, l.ptr, r.ptr] 167 := (hA.keep a HBX.out.lt HN.out.2.1).trans HBX.out
      have q1 := b1.cell 2
      have q2 := b1.frozen 2
      simp only [List.getElem?_toArray, List.getElem?_cons_zero, List.getElem?_cons_succ] at q1
      have hA2 := HAR.out w1 r' _ hA
      obtain ⟨pp, hpp⟩ := ptr_form r'
      rw [hpp] at hA2 ⊢
      have HA := Lib.hid hA2
      clear hA hA2 b1 g0 g1 g2 hpp
      go_wp2
      go_ret
      exact ⟨.node a 0 y l r', rfl, by rw [E.out]; exact HA.out⟩
    · have E := Lib.hid (show putT (.node a 0 y l r) x = tl (.node a 0 y l r) from (if_neg c1).trans (if_neg c2))
      have C := Lib.hid (show cmpI x y = 0 by simp [cmpI, c1, c2])
      clear c1 c2
      go_enter Tryz.func131, Tryz.ntmps131
      go_wp2_with fail
      refine (cmpCompare_any x y _).mono ?_
      rintro e w1 ⟨he, rfl⟩
      rw [C.out] at he
      subst he
      go_wp2
      go_ret
      exact ⟨.node a 0 y l r, rfl, by rw [E.out]; exact HS.out⟩
end Go.Proofs.YtighalbnpgmdfaaGreat

namespace Go.Proofs.YtighalbnpgmdfaaGreat
open Go.ChangeShapes Go.WideShapes Go.ChangeAt Go.RowKit Go.Sort
open Go.Deep (BT)
set_option linter.unusedVariables false
set_option linter.unusedSimpArgs false

theorem ownsRow_lo {w : World} {base base' : Nat} {e : TypeId} {size : Nat} {v : Value} {n : Nat} {cs : List Value} (h : w.ownsRow base e size v n cs) (hb : base' ≤ base) : w.ownsRow base' e size v n cs := by
  refine ⟨h.1, ?_⟩
  rcases h.2 with h2 | ⟨g, cap, cur, hv, hg, hr⟩
  · exact .inl h2
  · exact .inr ⟨g, cap, cur, hv, Nat.le_trans hb hg, hr⟩

/-- append(v, y) of one element as one step of a region that draws. -/
theorem step_pushG {P : Program} {w : World} {ops : Array Oper} {o : Oper} {a : Act} {K : Act → World → Prop} {Q : Exit → Act → World → Prop} {E : Prop} (hgd : o.guard = none) (s x : Operand) (t e : TypeId)
    (ho : o.op = .call { callee := .builtin .append, args := #[s, x], argTypes := #[t, t] })
    (i : TypeInfo) (ht : P.underlying t = some (.slice e)) (hi : P.info? e = some i) (hz : i.zero = some (.int .i64 0)) (hz1 : i.size = 1) (hz2 : i.bytes = 8)
    (base n : Nat) (v : Value) (cs : List Value) (ad : Addr) (c : Nat) (y : Value) (hs : a.eval s = v) (hx : a.eval x = .slice (some ad) 1 c) (hy : y.oneCell' = true)
    (hown : w.ownsRow base e 1 v n cs) (hbase : base ≤ w.heap.size) (hn : n + 1 ≤ 1048580)
    (hc0 : w.cell? (ad.add 0) = some y)
    (h : ∀ v' w', w'.ownsRow base e 1 v' (n + 1) (cs ++ [y]) → w.grownBy w' v.ownBlock → K (a.put o.dst v') w') :
    if Region.wanted o (yielded ops a.tmps) = true then Oper.wp P o a w K Q else E := by
  have hw : Region.wanted o (yielded ops a.tmps) = true := by simp [Region.wanted, hgd]
  rw [if_pos hw]
  refine wp_append_own (P := P) _ s x t ho base e i _ 1 8 ht hi hz hz1 hz2 rfl (by omega) v n _ hs hown ad 1 c [y] hx rfl
    (fun j u hj => by
      rcases j with _ | j
      · simp at hj; subst hj; exact hc0
      · simp at hj) (by intro u hu; simp at hu; subst hu; exact hy)
    (by unfold maxLen; omega) (by omega) hbase ?_
  intro v' w' hown' hg _
  exact h v' w' hown' hg

def ListT (w : World) (xs : List Int) (e : Ending) (w' : World) : Prop := ∃ v, e = .returned v ∧ w'.ownsRow w.heap.size 3 1 v xs.length (xs.map (Value.int .i64)) ∧ Below w.heap.size w w'

set_option maxHeartbeats 4000000 in
set_option maxRecDepth 100000 in
theorem listTerms_any (lo : Nat) : ∀ (t : BT Int) (w : World), At w lo t → (tl t).length ≤ 1048576 → Calls Tryz.prog 132 #[t.ptr] w (ListT w (tl t)) := by
  intro t
  induction t with
  | nil =>
    intro w h hn
    show Calls Tryz.prog 132 #[.pointer none] w _
    clear h hn
    go_enter Tryz.func132, Tryz.ntmps132
    go_wp2
    go_ret
    exact ⟨_, rfl, ⟨rfl, .inl ⟨rfl, rfl⟩⟩, Below.refl _ _⟩
  | node a o y l r ihl ihr =>
    intro w h hn
    obtain ⟨i0, hi, hz0, hz1, hz2⟩ := info_parts int_info
    obtain ⟨rfl, ha, hbx, hl, hr⟩ := id h
    have hlen : (tl l).length + 1 + (tl r).length ≤ 1048576 := by simp [tl] at hn; omega
    have HL := Lib.hid fun (W : World) (N : Below w.heap.size w W) => ihl W (hl.step N) (by omega)
    have HR := Lib.hid fun (W : World) (N : Below w.heap.size w W) => ihr W (hr.step N) (by omega)
    have g0 := hbx.cell 0
    have g1 := hbx.cell 1
    have g2 := hbx.cell 2
    simp only [List.getElem?_toArray, List.getElem?_cons_zero, List.getElem?_cons_succ] at g0 g1 g2
    have HT := Lib.hid fun (W : World) (N : Below w.heap.size w W) => (show W.cell? ⟨a, 0, none⟩ = some (.int .i64 y) ∧ W.cell? ⟨a, 1, none⟩ = some l.ptr ∧ W.cell? ⟨a, 2, none⟩ = some r.ptr from
      ⟨(N.cell (p := ⟨a, 0, none⟩) hbx.lt).trans g0, (N.cell (p := ⟨a, 1, none⟩) hbx.lt).trans g1, (N.cell (p := ⟨a, 2, none⟩) hbx.lt).trans g2⟩)
    have N := below_drew w
    have TL : tl (.node a 0 y l r) = (tl l ++ [y]) ++ tl r := by simp [tl]
    have HTL := Lib.hid TL
    clear ihl ihr hl hr h hn hbx TL
    obtain ⟨pl, hpl⟩ := ptr_form l
    obtain ⟨pr, hpr⟩ := ptr_form r
    rw [hpl] at HL HT g1
    rw [hpr] at HR HT g2
    generalize tl l = xl at HL HTL hlen
    generalize tl r = xr at HR HTL hlen
    rw [HTL.out]
    clear HTL hpl hpr
    show Calls Tryz.prog 132 #[.pointer (some ⟨a, 0, none⟩)] w _
    go_enter Tryz.func132, Tryz.ntmps132
    go_wp2
    go_region_held3 (fun w' => w'.cell? ⟨a, 0, none⟩ = some (.int .i64 y) ∧ w'.cell? ⟨a, 1, none⟩ = some (.pointer pl) ∧ w'.cell? ⟨a, 2, none⟩ = some (.pointer pr))
      (first
        | exact HT.out _ N
        | exact HT.out _ (N.alloc N.size _))
      (first
        | (refine step_pushG rfl _ _ _ 3 rfl i0 Tryz.underlying22 hi hz0 hz1 hz2 w.heap.size xl.length (.slice AL xl.length cL) (xl.map (Value.int .i64)) _ 1 (.int .i64 y) rfl rfl rfl (by first | exact FL.out | exact FL.out.alloc _) (by first | exact N.size | exact (N.alloc N.size _).size) (by omega) (by first | (simp [Addr.add]; done) | exact (KD.out ⟨w.heap.size, 0, none⟩ (by show w.heap.size < (w.alloc (.cells #[.int .i64 y] 3)).heap.size; simp)).trans (by show (w.alloc (.cells #[.int .i64 y] 3)).cell? ⟨w.heap.size, 0, none⟩ = _; simp)) ?_
           intro vA uA hownA hgA
           obtain ⟨AA, cA, rfl⟩ := ownsRow_form hownA
           have NN : Below w.heap.size w uA := by first | exact N.grown hgA N.size (fun k hk => (FL.out.lt k hk).1) | exact (N.alloc N.size _).grown hgA (N.alloc N.size _).size (fun k hk => (FL.out.lt k hk).1)
           have FA := Lib.hid hownA
           clear N hownA hgA
           have N := NN
           clear NN)
        | (refine step_appendR rfl _ _ _ 3 rfl i0 Tryz.underlying22 hi hz0 hz1 hz2 w.heap.size (xl.length + 1) (.slice AA (xl.length + 1) cA) (xl.map (Value.int .i64) ++ [.int .i64 y]) rfl 0 _ A2 c2 xr rfl (by exact FA.out) (by exact FG.out) N N.size (by omega) ?_
           intro vR uR hownR NR _
           have FR := Lib.hid hownR
           clear N hownR
           have N := NR
           clear NR)
        | (have FA0 := FA.out
           clear FA0
           go_at_call 132; refine (HR.out _ N).mono ?_; rintro e uG ⟨vG, rfl, hown, d⟩
           obtain ⟨A2, c2, rfl⟩ := ownsRow_form hown
           have NN : Below w.heap.size w uG := N.trans (d.mono N.size)
           obtain ⟨qG, hv⟩ := ownV_of_row hown
           have FA2 := Lib.hid (ownsRow_step FA.out d)
           clear FA
           have FA := FA2
           have FG := Lib.hid (show RI uG A2 xr from (hv.ints).2.2.2.mono (Nat.zero_le _) (Nat.le_refl _))
           clear hv FA2 N hown d
           have N := NN
           clear NN)
        | (go_at_call 132; refine (HL.out _ (by first | exact N | exact N.alloc N.size _)).mono ?_; rintro e uL ⟨vL, rfl, hown, d⟩
           obtain ⟨AL, cL, rfl⟩ := ownsRow_form hown
           have NN : Below w.heap.size w uL := by first | exact N.trans (d.mono N.size) | exact (N.alloc N.size _).trans (d.mono (N.alloc N.size _).size)
           have KD := Lib.hid fun (p : Addr) h => d.cell (p := p) h
           have FL := Lib.hid (ownsRow_lo hown (by first | exact N.size | exact (N.alloc N.size _).size))
           clear N hown d
           have N := NN
           clear NN))
    all_goals
      have FR2 : uR.ownsRow w.heap.size 3 1 vR (xl ++ [y] ++ xr).length ((xl ++ [y] ++ xr).map (Value.int .i64)) := by
        have := FR.out
        simpa [Nat.add_assoc, Nat.add_comm 1] using this
      have HR2 := Lib.hid FR2
      clear FR2
      go_wp2
      go_ret
      exact ⟨_, rfl, HR2.out, N⟩
end Go.Proofs.YtighalbnpgmdfaaGreat

namespace Go.Proofs.YtighalbnpgmdfaaGreat
open Go.ChangeShapes Go.WideShapes Go.ChangeAt Go.RowKit Go.Sort
open Go.Deep (BT)
set_option linter.unusedVariables false
set_option linter.unusedSimpArgs false

/-- x is laid ahead of the first greater number. -/
def insG : List Int → Int → List Int
  | [], x => [x]
  | y :: ys, x => if x < y then x :: y :: ys else y :: insG ys x
/-- x is added, once. -/
def putI (l : List Int) (x : Int) : List Int := if x ∈ l then l else insG l x
def Asc (l : List Int) : Prop := l.Pairwise (· < ·)
theorem putI_yes {l : List Int} {x : Int} (h : x ∈ l) : putI l x = l := if_pos h
theorem putI_no {l : List Int} {x : Int} (h : x ∉ l) : putI l x = insG l x := if_neg h
theorem insG_len : ∀ (l : List Int) (x : Int), (insG l x).length = l.length + 1
  | [], x => rfl
  | y :: ys, x => by
    unfold insG
    split
    · simp
    · simp [insG_len ys x]
theorem putI_len (l : List Int) (x : Int) : (putI l x).length ≤ l.length + 1 := by
  unfold putI
  split
  · omega
  · rw [insG_len]; omega
theorem insG_mem : ∀ (l : List Int) (x b : Int), b ∈ insG l x ↔ b = x ∨ b ∈ l
  | [], x, b => by simp [insG]
  | y :: ys, x, b => by
    unfold insG
    split
    · simp
    · simp only [List.mem_cons, insG_mem ys x b]
      constructor
      · rintro (h | h | h)
        · exact .inr (.inl h)
        · exact .inl h
        · exact .inr (.inr h)
      · rintro (h | h | h)
        · exact .inr (.inl h)
        · exact .inl h
        · exact .inr (.inr h)
theorem putI_mem (l : List Int) (x b : Int) : b ∈ putI l x ↔ b = x ∨ b ∈ l := by
  unfold putI
  split
  · rename_i h
    constructor
    · exact fun hb => .inr hb
    · rintro (rfl | hb)
      · exact h
      · exact hb
  · exact insG_mem l x b
theorem insG_asc : ∀ (l : List Int) (x : Int), Asc l → x ∉ l → Asc (insG l x)
  | [], x, _, _ => by simp [insG, Asc]
  | y :: ys, x, h, hx => by
    have h1 : (∀ b ∈ ys, y < b) ∧ Asc ys := by simpa [Asc, List.pairwise_cons] using h
    simp only [List.mem_cons, not_or] at hx
    unfold insG
    split
    · rename_i hlt
      refine List.pairwise_cons.2 ⟨fun b hb => ?_, h⟩
      rcases List.mem_cons.1 hb with rfl | hb
      · exact hlt
      · exact Int.lt_trans hlt (h1.1 b hb)
    · rename_i hge
      refine List.pairwise_cons.2 ⟨fun b hb => ?_, insG_asc ys x h1.2 hx.2⟩
      rcases (insG_mem ys x b).1 hb with rfl | hb
      · have := hx.1; omega
      · exact h1.1 b hb
theorem putI_asc {l : List Int} {x : Int} (h : Asc l) : Asc (putI l x) := by
  unfold putI
  split
  · exact h
  · rename_i hx
    exact insG_asc l x h hx
theorem insG_left (y : Int) (ys : List Int) (x : Int) (h : x < y) : ∀ l : List Int, insG (l ++ y :: ys) x = insG l x ++ y :: ys
  | [] => by simp [insG, h]
  | a :: l => by
    simp only [List.cons_append, insG]
    split
    · rfl
    · rw [insG_left y ys x h l]; rfl
theorem insG_right (ys : List Int) (x : Int) : ∀ l : List Int, (∀ a ∈ l, ¬ x < a) → insG (l ++ ys) x = l ++ insG ys x
  | [], _ => rfl
  | a :: l, h => by
    simp only [List.cons_append, insG]
    rw [if_neg (h a (by simp)), insG_right ys x l fun b hb => h b (by simp [hb])]
theorem insG_some (ys : List Int) (x : Int) : ∀ l : List Int, (∃ a ∈ l, x < a) → insG (l ++ ys) x = insG l x ++ ys
  | [], h => by obtain ⟨_, h, _⟩ := h; simp at h
  | a :: l, h => by
    simp only [List.cons_append, insG]
    split
    · rfl
    · rename_i hn
      rw [insG_some ys x l ?_]
      · rfl
      · obtain ⟨b, hb, hlt⟩ := h
        rcases List.mem_cons.1 hb with rfl | hb
        · exact absurd hlt hn
        · exact ⟨b, hb, hlt⟩

/-- An addition to a tree whose numbers ascend. -/
theorem putT_eq : ∀ (t : BT Int) (x : Int), Asc (tl t) → putT t x = putI (tl t) x
  | .nil, x, _ => by simp [putT, tl, putI, insG]
  | .node a o y l r, x, h => by
    have h0 : Asc (tl l) ∧ (∀ b ∈ tl r, y < b) ∧ Asc (tl r) ∧ (∀ a ∈ tl l, ∀ b ∈ y :: tl r, a < b) := by
      simp only [tl, Asc, List.pairwise_append, List.pairwise_cons] at h
      exact ⟨h.1, h.2.1.1, h.2.1.2, h.2.2⟩
    obtain ⟨h1, h2, h3, h4⟩ := h0
    show (if x < y then putT l x ++ y :: tl r else if y < x then tl l ++ y :: putT r x else tl l ++ y :: tl r) = putI (tl l ++ y :: tl r) x
    by_cases c1 : x < y
    · rw [if_pos c1, putT_eq l x h1]
      have hr : x ∉ tl r := fun hx => by have := h2 x hx; omega
      by_cases hx : x ∈ tl l
      · rw [putI_yes hx, putI_yes (by simp [hx])]
      · rw [putI_no hx, putI_no (by simp only [List.mem_append, List.mem_cons, not_or]; exact ⟨hx, by omega, hr⟩), insG_left y _ x c1]
    · rw [if_neg c1]
      have hl : ∀ a ∈ tl l, a < y := fun a ha => h4 a ha y (by simp)
      by_cases c2 : y < x
      · rw [if_pos c2, putT_eq r x h3]
        have hxl : x ∉ tl l := fun hx => by have := hl x hx; omega
        have hle : ∀ a ∈ tl l, ¬ x < a := fun a ha => by have := hl a ha; omega
        by_cases hx : x ∈ tl r
        · rw [putI_yes hx, putI_yes (by simp [hx])]
        · rw [putI_no hx, putI_no (by simp only [List.mem_append, List.mem_cons, not_or]; exact ⟨hxl, by omega, hx⟩), insG_right _ x (tl l) hle]
          simp only [insG]
          rw [if_neg (show ¬ x < y by omega)]
      · rw [if_neg c2, putI_yes (by simp [show x = y by omega])]

/-- Where the model's loop stands. -/
def PutSt (v : List Int) (x : Int) (k : Nat) (pb : Bool) (out : List Int) : Prop :=
  (pb = false → out = v.take k ∧ ∀ y ∈ v.take k, ¬ x < y) ∧ (pb = true → out = insG (v.take k) x ∧ ∃ y ∈ v.take k, x < y)
theorem PutSt.start (v : List Int) (x : Int) : PutSt v x 0 false [] := ⟨fun _ => ⟨by simp, by simp⟩, fun h => by cases h⟩
theorem takeI (v : List Int) {k : Nat} (hk : k < v.length) {z : Int} (hz : v.getD k 0 = z) : v.take (k + 1) = v.take k ++ [z] := by
  rw [List.take_succ_eq_append_getElem hk]
  subst hz
  simp [List.getD_eq_getElem?_getD, hk]
theorem PutSt.push {v : List Int} {x : Int} {k : Nat} {pb : Bool} {out : List Int} (h : PutSt v x k pb out) (hk : k < v.length) {z : Int} (hz : v.getD k 0 = z) (hp : pb = true ∨ ¬ x < z) : PutSt v x (k + 1) pb (out ++ [z]) := by
  have hT := takeI v hk hz
  refine ⟨fun hb => ?_, fun hb => ?_⟩
  · obtain ⟨h1, h2⟩ := h.1 hb
    rw [hT, h1]
    refine ⟨rfl, fun y hy => ?_⟩
    rcases List.mem_append.1 hy with hy | hy
    · exact h2 y hy
    · simp at hy
      subst hy
      rcases hp with hp | hp
      · rw [hb] at hp; cases hp
      · exact hp
  · obtain ⟨h1, h2⟩ := h.2 hb
    rw [hT, h1]
    refine ⟨(insG_some [z] x _ h2).symm, ?_⟩
    obtain ⟨y, hy, hlt⟩ := h2
    exact ⟨y, List.mem_append_left _ hy, hlt⟩
theorem PutSt.place {v : List Int} {x : Int} {k : Nat} {out : List Int} (h : PutSt v x k false out) (hk : k < v.length) {z : Int} (hz : v.getD k 0 = z) (hp : x < z) : PutSt v x (k + 1) true (out ++ [x] ++ [z]) := by
  have hT := takeI v hk hz
  obtain ⟨h1, h2⟩ := h.1 rfl
  refine ⟨fun hb => (by cases hb), fun _ => ?_⟩
  rw [hT, h1, insG_right [z] x _ h2]
  simp only [insG]
  rw [if_pos hp]
  exact ⟨by simp, z, by simp, hp⟩
theorem PutSt.done {v : List Int} {x : Int} {out : List Int} (h : PutSt v x v.length true out) : out = insG v x := by
  have := (h.2 rfl).1
  rwa [take_all] at this
theorem PutSt.last {v : List Int} {x : Int} {out : List Int} (h : PutSt v x v.length false out) : out ++ [x] = insG v x := by
  obtain ⟨h1, h2⟩ := h.1 rfl
  rw [take_all] at h1 h2
  have := insG_right [] x v h2
  rw [List.append_nil] at this
  rw [h1, this]
  rfl
theorem PutSt.len {v : List Int} {x : Int} {k : Nat} {pb : Bool} {out : List Int} (h : PutSt v x k pb out) : out.length ≤ k + 1 := by
  cases pb
  · rw [(h.1 rfl).1, List.length_take]; omega
  · rw [(h.2 rfl).1, insG_len, List.length_take]; omega

set_option maxHeartbeats 400000 in
set_option maxRecDepth 100000 in
theorem l2Has_any (lo hi : Nat) (A : Option Addr) (c : Nat) (v : List Int) (x : Int) (hl : v.length ≤ 1048576) (w : World) (h : Ints w lo hi A v) :
    Calls Tryz.prog 52 #[.slice A v.length c, .int .i64 x] w fun e w' => e = .returned (.bool (decide (x ∈ v))) ∧ w = w' := by
  have HI := Lib.hid h
  clear h
  have hl' : (v.length : Int) ≤ 1048576 := by omega
  go_enter Tryz.func52, Tryz.ntmps52
  go_wp2
  go_loop [5] (fun i => ∃ k : Nat, k ≤ v.length ∧ i = .int .i64 k ∧ Hid (x ∉ v.take k)) (fun i => v.length - (intOf i).toNat)
  case atStart => exact ⟨0, by omega, rfl, Lib.hid (by simp)⟩
  case round =>
    obtain ⟨k, hk, rfl, ha⟩ := hrel
    by_cases hlt : k < v.length
    · obtain ⟨b, off, rfl, _, _, hc⟩ := HI.out.at_ hlt
      generalize hz : v.getD k 0 = z at hc
      have HT := Lib.hid (takeI v hlt hz)
      have HM := Lib.hid (show z ∈ v by subst hz; rw [List.getD_eq_getElem?_getD, List.getElem?_eq_getElem hlt]; exact List.getElem_mem _)
      clear hz
      by_cases he : z = x
      · subst he
        go_wp2
        go_ret
        exact ⟨ret_bool (decide_eq_true HM.out).symm, rfl⟩
      · have d1 : (z == x) = false := by simpa using he
        go_wp2
        go_round
        case rel => exact ⟨k + 1, by omega, by go_num, Lib.hid (by rw [HT.out]; simp only [List.mem_append, List.mem_singleton, not_or]; exact ⟨ha.out, fun e => he e.symm⟩)⟩
        case measure => simp [intOf]; omega
    · obtain rfl : k = v.length := by omega
      go_wp2
      go_ret
      exact ⟨ret_bool (by have := ha.out; rw [take_all] at this; rw [decide_eq_false this]), rfl⟩

/-- A list that was made since block lo, or lay there. -/
def PutO (w : World) (lo : Nat) (xs : List Int) (e : Ending) (w' : World) : Prop := ∃ A c, e = .returned (.slice A xs.length c) ∧ Ints w' lo w'.heap.size A xs ∧ Below w.heap.size w w'
theorem ints_own {w : World} {base lo : Nat} {A : Option Addr} {c : Nat} {xs : List Int} (h : w.ownsRow base 3 1 (.slice A xs.length c) xs.length (xs.map (Value.int .i64))) (hlo : lo ≤ base) : Ints w lo w.heap.size A xs := by
  obtain ⟨q, hv⟩ := ownV_of_row h
  exact (hv.ints).2.2.2.mono hlo (Nat.le_refl _)

set_option maxRecDepth 100000 in
set_option maxHeartbeats 1000000 in
theorem l3Put_any (lo : Nat) (A : Option Addr) (c : Nat) (v : List Int) (x : Int) (hl : v.length ≤ 1048570) (w : World) (hlo : lo ≤ w.heap.size) (h : Ints w lo w.heap.size A v) :
    Calls Tryz.prog 88 #[.slice A v.length c, .int .i64 x] w (PutO w lo (putI v x)) := by
  obtain ⟨i0, hi, hz0, hz1, hz2⟩ := info_parts int_info
  have hl' : (v.length : Int) ≤ 1048570 := by omega
  have HI := Lib.hid h
  have HLO := Lib.hid hlo
  have XH := Lib.hid (l2Has_any lo w.heap.size A c v x (by omega) w h)
  clear h hlo
  by_cases hx : x ∈ v
  · rw [putI_yes hx]
    have D := Lib.hid (decide_eq_true hx)
    clear hx
    go_enter Tryz.func88, Tryz.ntmps88
    go_wp2_with fail
    refine XH.out.mono ?_
    rintro e w1 ⟨he, rfl⟩
    rw [D.out] at he
    subst he
    go_wp2
    go_ret
    exact ⟨A, c, rfl, HI.out, Below.refl _ _⟩
  · rw [putI_no hx]
    have D := Lib.hid (decide_eq_false hx)
    have O0 := Lib.hid (World.ownsRow_lit (base := w.heap.size) (e := 3) (size := 1) w #[] 0 (Nat.le_refl _) (by unfold maxLen; omega) rfl)
    clear hx
    go_enter Tryz.func88, Tryz.ntmps88
    go_wp2_with fail
    refine XH.out.mono ?_
    rintro e w1 ⟨he, rfl⟩
    rw [D.out] at he
    subst he
    go_wp2
    go_loopw [5, 6, 7] (fun o p i wr => ∃ (k : Nat) (pb : Bool) (out : List Int) (A2 : Option Addr) (c2 : Nat), k ≤ v.length ∧ i = .int .i64 k ∧ p = .bool pb ∧ o = .slice A2 out.length c2 ∧ wr.ownsRow w.heap.size 3 1 (.slice A2 out.length c2) out.length (out.map (Value.int .i64)) ∧ Hid (PutSt v x k pb out) ∧ Below w.heap.size w wr) (fun _ _ i _ => v.length - (intOf i).toNat)
    case atStart => exact ⟨0, false, [], _, _, by omega, rfl, rfl, rfl, O0.out, Lib.hid (PutSt.start v x), below_alloc _ _⟩
    case round =>
      obtain ⟨k, pb, out, A2, c2, hk, rfl, rfl, rfl, ho, hst, hb⟩ := hrel
      have HO := Lib.hid ho
      have HB := Lib.hid hb
      have hlen := hst.out.len
      clear ho hb
      by_cases hlt : k < v.length
      · obtain ⟨b, off, rfl, _, hbhi, hc0⟩ := HI.out.at_ hlt
        generalize hz : v.getD k 0 = z at hc0
        have HC0 := Lib.hid hc0
        have hc := (HB.out.cell (p := ⟨b, off + k, none⟩) hbhi).trans hc0
        clear hc0
        have HZ := Lib.hid hz
        have SZ := HB.out.size
        clear hz
        by_cases hp : pb = true ∨ ¬ x < z
        · have ST := Lib.hid (hst.out.push hlt HZ.out hp)
          have HO2 := Lib.hid (show wr.ownsRow w.heap.size 3 1 (.slice A2 out.length c2) out.length (out.map (Value.int .i64)) from HO.out)
          obtain ⟨out2, ho2⟩ : ∃ o, o = out ++ [z] := ⟨_, rfl⟩
          have E2 := Lib.hid ho2
          have EL := Lib.hid (show out2.length = out.length + 1 by rw [ho2]; simp)
          have EM := Lib.hid (show out2.map (Value.int .i64) = out.map (Value.int .i64) ++ [.int .i64 z] by rw [ho2]; simp)
          rw [← ho2] at ST
          clear ho2
          rcases pb with _ | _
          · have hn : ¬ x < z := by rcases hp with hp | hp; cases hp; exact hp
            have hn2 : z ≤ x := by omega
            have d1 : decide (x < z) = false := by simpa using hn
            clear hp
            go_wp2_with (at_builtin; refine wpList_push rfl _ _ _ 3 rfl i0 Tryz.underlying22 hi (.int .i64 0) 8 hz0 hz1 hz2 rfl (by omega) rfl rfl rfl HO2.out HB.out SZ (by omega) ?_; intro v' w' hown' hb' hsz'; obtain ⟨A', c', rfl⟩ := ownsRow_form hown')
            go_roundw
            case rel =>
              refine ⟨k + 1, false, out2, A', c', by omega, by go_num, rfl, by rw [EL.out], ?_, ST, hb'⟩
              rw [EL.out, EM.out]
              exact hown'
            case measure => simp [intOf]; omega
          · clear hp
            go_wp2_with (at_builtin; refine wpList_push rfl _ _ _ 3 rfl i0 Tryz.underlying22 hi (.int .i64 0) 8 hz0 hz1 hz2 rfl (by omega) rfl rfl rfl HO2.out HB.out SZ (by omega) ?_; intro v' w' hown' hb' hsz'; obtain ⟨A', c', rfl⟩ := ownsRow_form hown')
            go_roundw
            case rel =>
              refine ⟨k + 1, true, out2, A', c', by omega, by go_num, rfl, by rw [EL.out], ?_, ST, hb'⟩
              rw [EL.out, EM.out]
              exact hown'
            case measure => simp [intOf]; omega
        · have hpb : pb = false := by cases pb; rfl; exact absurd (.inl rfl) hp
          subst hpb
          have hxz : x < z := by rcases Int.lt_or_le x z with h | h; exact h; exact absurd (.inr (by omega)) hp
          have d1 : decide (x < z) = true := by simpa using hxz
          have ST := Lib.hid (hst.out.place hlt HZ.out hxz)
          obtain ⟨out2, ho2⟩ : ∃ o, o = out ++ [x] ++ [z] := ⟨_, rfl⟩
          have EL := Lib.hid (show out2.length = out.length + 1 + 1 by rw [ho2]; simp)
          have EM := Lib.hid (show out2.map (Value.int .i64) = out.map (Value.int .i64) ++ [.int .i64 x] ++ [.int .i64 z] by rw [ho2]; simp)
          rw [← ho2] at ST
          clear ho2 hp
          go_wp2_with (first
            | (at_builtin; refine wpList_push rfl _ _ _ 3 rfl i0 Tryz.underlying22 hi (.int .i64 0) 8 hz0 hz1 hz2 rfl (by omega) rfl rfl rfl HO.out HB.out SZ (by omega) ?_; intro v1 w1 hown1 hb1 hsz1; obtain ⟨A1, c1, rfl⟩ := ownsRow_form hown1
               have hc1 := (hb1.cell (p := ⟨b, off + k, none⟩) hbhi).trans HC0.out)
            | (at_builtin; refine wpList_push rfl _ _ _ 3 rfl i0 Tryz.underlying22 hi (.int .i64 0) 8 hz0 hz1 hz2 rfl (by omega) rfl rfl rfl hown1 hb1 (Nat.le_of_lt hsz1) (by omega) ?_; intro v' w' hown' hb' hsz'; obtain ⟨A', c', rfl⟩ := ownsRow_form hown'))
          go_roundw
          case rel =>
            refine ⟨k + 1, true, out2, A', c', by omega, by go_num, rfl, by rw [EL.out], ?_, ST, hb'⟩
            rw [EL.out, EM.out]
            exact hown'
          case measure => simp [intOf]; omega
      · obtain rfl : k = v.length := by omega
        have SZ := HB.out.size
        rcases pb with _ | _
        · have E := Lib.hid hst.out.last
          have EL := Lib.hid (show (insG v x).length = out.length + 1 by rw [← hst.out.last]; simp)
          have EM := Lib.hid (show (insG v x).map (Value.int .i64) = out.map (Value.int .i64) ++ [.int .i64 x] by rw [← hst.out.last]; simp)
          go_wp2_with (at_builtin; refine wpList_push rfl _ _ _ 3 rfl i0 Tryz.underlying22 hi (.int .i64 0) 8 hz0 hz1 hz2 rfl (by omega) rfl rfl rfl HO.out HB.out SZ (by omega) ?_; intro v' w' hown' hb' hsz'; obtain ⟨A', c', rfl⟩ := ownsRow_form hown')
          go_ret
          refine ⟨A', c', congrArg (fun n => Ending.returned (.slice A' n c')) EL.out.symm, ints_own (by rw [EL.out, EM.out]; exact hown') HLO.out, hb'⟩
        · have E := Lib.hid hst.out.done
          go_wp2
          go_ret
          exact ⟨A2, c2, congrArg (fun o : List Int => Ending.returned (.slice A2 o.length c2)) E.out, ints_own (by rw [← E.out]; exact HO.out) HLO.out, HB.out⟩
end Go.Proofs.YtighalbnpgmdfaaGreat
