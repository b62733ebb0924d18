/- The model's drawing of any fact and of lists of facts. Conditions: none beyond each theorem's own. The model's drawing of any fact. Conditions: none beyond each theorem's own. The model's drawing of any list of facts. Conditions: none beyond each theorem's own. -/
import Derived.Test.YtigakhkhjjbboaaGreatDoorDrF
import Derived.Test.YtigakhkhjjbboaaGreatDoorMark2
import Derived.Deep.RegionLaw
import Derived.Deep.AppendLies

namespace Go.Proofs.YtigakhkhjjbboaaGreatDoor
open Go.ChangeShapes Go.WideShapes Go.ChangeAt Go.RowKit Go.Sort
set_option linter.unusedVariables false
set_option linter.unusedSimpArgs false

theorem OwnC.dr {w w' : World} {lo g len cap : Nat} {A : Option Addr} {v : Value} {fs : FL} {cs : List Value} {bs : Nat → Nat} (h : OwnC w lo w.heap.size v fs cs bs) (hl : g < lo) (d : Dr g A len cap w w') : OwnC w' lo w'.heap.size v fs cs bs :=
  ⟨own_kept h.1 hl d.grown, (h.2.keep fun q h1 h2 _ => d.block h2 (by omega)).mono (Nat.le_refl _) d.size⟩
/-- Facts of the call's own. -/
def DrawL (g : Nat) (A : Option Addr) (len cap : Nat) (m : Int) (w : World) (e : Ending) (w' : World) : Prop :=
  ∃ (X : Addr) (c : Nat) (fs : FL) (cs : List Value) (bs : Nat → Nat), e = .returned (.slice (some X) fs.length c) ∧ OwnC w' w.heap.size w'.heap.size (.slice (some X) fs.length c) fs cs bs ∧ szF fs ≤ m ∧ Dr g A len cap w w'

set_option maxRecDepth 100000 in
set_option maxHeartbeats 2000000 in
theorem l2Facts_any (B g lo hi0 : Nat) (A : Option Addr) (len cap : Nat) (S : Option Addr) (cs : Nat) (s : List Int) (most : Int) (w : World) (hw1 : 0 ≤ most) (hw2 : most ≤ 8) (hs : schB s = true) (hS : Ints w lo hi0 S s) (hlo : g < lo) (hhi : hi0 ≤ w.heap.size)
    (hlen : len ≤ 1048576) (hg : B ≤ g) (hc : Cur w g A len cap) (hcode : CodeIn B w A len) :
    Calls Tryz.prog 80 #[.pointer (some ⟨g, 0, none⟩), .slice S s.length cs, .int .i64 most] w (DrawL g A len cap 32 w) := by
  have hgw := hc.lt
  have HC := Lib.hid fun (W : World) (d : Dr g A len cap w W) => hcode.below (d.below hg hgw)
  have HI := Lib.hid fun (W : World) (d : Dr g A len cap w W) => hS.dr hlo hhi d
  have HSC := Lib.hid hs
  have D0 := Lib.hid ((Dr.refl hc).alloc (.cells #[] 27))
  have O0 := Lib.hid (show OwnC (w.alloc (.cells #[] 27)) w.heap.size (w.alloc (.cells #[] 27)).heap.size (.slice (some ⟨w.heap.size, 0, none⟩) 0 0) [] [] (fun _ => 0) from
    ⟨World.ownsRow_lit (base := w.heap.size) (e := 27) (size := 2) w #[] 0 (Nat.le_refl _) (by unfold maxLen; omega) rfl, Items.nil _ _ _⟩)
  clear hc hcode hs hS
  go_enter Tryz.func80, Tryz.ntmps80
  go_wp2_with fail
  refine (l1Below_d B g A len cap (most + 1) _ (by omega) (by omega) hlen hg D0.out.cur (HC.out _ D0.out)).mono ?_
  rintro e w1 ⟨x, rfl, hx0, hx1, d⟩
  obtain ⟨n, rfl⟩ := Int.eq_ofNat_of_zero_le hx0
  have D1 := Lib.hid (D0.out.trans d)
  have O1 := Lib.hid (O0.out.dr hgw d)
  clear d
  go_wp2
  go_loopw [7, 8] (fun v c wr => ∃ (fs : FL) (m : Nat) (X : Addr) (cp : Nat) (cs : List Value) (bs : Nat → Nat), c = .int .i64 m ∧ v = .slice (some X) fs.length cp ∧ szF fs + 4 * m ≤ 32 ∧ Hid (OwnC wr w.heap.size wr.heap.size (.slice (some X) fs.length cp) fs cs bs) ∧ Hid (Dr g A len cap w wr)) (fun _ c _ => (intOf c).toNat)
  case atStart => exact ⟨[], n, _, 0, [], _, rfl, rfl, by simp [szF, sumN]; omega, O1, D1⟩
  case round =>
    obtain ⟨fs, m, X, cp, cv, bs, rfl, rfl, hz, ho, hd⟩ := hrel
    by_cases hm : 0 < m
    · have hm' : (0 : Int) < (m : Int) := by omega
      have hm8 : (m : Int) ≤ 8 := by have := szF_nonneg fs; omega
      go_wp2_with fail
      refine (l2Fact_any B g lo hi0 A len cap S cs s 4 _ (by omega) (by omega) HSC.out (HI.out _ hd.out) hlo (by have := hd.out.size; omega) hlen hg hd.out.cur (HC.out _ hd.out)).mono ?_
      rintro e w2 ⟨r, X2, c2, xs, rfl, hown, ⟨h1, h3⟩, d⟩
      have D2 := Lib.hid (hd.out.trans d)
      have O2 := Lib.hid (ho.out.dr hgw d)
      obtain ⟨q, hv⟩ := ownV_of_row hown
      have J2 := Lib.hid (show RI w2 X2 xs from (hv.ints).2.2.2.mono (Nat.zero_le _) (Nat.le_refl _))
      have hadd := szF_addF fs r xs
      have hpos := addF_pos fs r xs
      have XA := Lib.hid (spec_AddFact (some X) cp fs r xs X2 c2 (by omega) (by omega) w2 O2.out.rf J2.out)
      generalize addF fs r xs = res at XA hadd hpos
      clear d hown hv
      go_wp2_with fail
      refine XA.out.mono ?_
      rintro e w3 ⟨A3, c3, cs3, bs3, rfl, ho3, hb3⟩
      obtain ⟨g3, cap3, hv3, _, _⟩ := ho3.1.form hpos
      injection hv3 with e1 e2 e3
      subst e1
      have O3 := Lib.hid (ho3.lo (D2.out.size))
      have D3 := Lib.hid (D2.out.then hb3)
      clear ho3 hb3 e2 e3
      go_wp2
      go_roundw
      case rel => exact ⟨res, m - 1, _, c3, cs3, bs3, by go_num, rfl, by omega, O3, D3⟩
      case measure => simp [intOf]; omega
    · obtain rfl : m = 0 := by omega
      go_wp2
      go_ret
      exact ⟨X, cp, fs, cv, bs, rfl, ho.out, by omega, hd.out⟩

/-- append(v, y) of one element, in a new block: what is turned is v's own block. -/
theorem wpList_pushG {P : Program} {W : World} {ops : Array Oper} {rest : List Oper} {o : Oper} {a : Act} {Q : Exit → Act → World → Prop} (hgd : o.guard = none) (s x : Operand) (t e : TypeId)
    (ho : o.op = .call { callee := .builtin .append, args := #[s, x], argTypes := #[t, t] })
    (i : TypeInfo) (ht : P.underlying t = some (.slice e)) (hi : P.info? e = some i) (hz : i.zero = some (.int .i64 0)) (hz1 : i.size = 1) (hz2 : i.bytes = 8)
    {base n : Nat} {v : Value} {cs : List Value} {y : Value} (hs : a.eval s = v) (hx : a.eval x = .slice (some ⟨W.heap.size, 0, none⟩) 1 1) (hy : y.oneCell' = true)
    (hown : W.ownsRow base e 1 v n cs) (hbase : base ≤ W.heap.size) (hn : n + 1 ≤ 1048580)
    (h : ∀ v' w', w'.ownsRow base e 1 v' (n + 1) (cs ++ [y]) → W.grownBy w' v.ownBlock → wpList P ops Q rest (a.put o.dst v') w') :
    wpList P ops Q (o :: rest) a (W.alloc (.cells #[y] e)) := by
  refine wpList_append_own (P := P) _ hgd s x t ho base e i _ 1 8 ht hi hz hz1 hz2 rfl (by omega) v n _ hs (hown.alloc _) ⟨W.heap.size, 0, none⟩ 1 1 [y] hx rfl (cell_one_new _ _ _) (by intro u hu; simp at hu; subst hu; exact hy)
    (by unfold maxLen; omega) (by omega) (by simp; omega) ?_
  intro v' w' hown' hg _
  exact h v' w' hown' ((World.grownBy_alloc _ _ _).trans hg)
theorem Dr.drew {g len cap : Nat} {A : Option Addr} {a w : World} (h : Dr g A len cap a w) : Dr g A len cap a w.drew := h.then (below_drew w)
/-- A fact of the call's own, perhaps with a number that was stored into it. -/
def DrawV (g : Nat) (A : Option Addr) (len cap : Nat) (m : Nat) (w : World) (e : Ending) (w' : World) : Prop :=
  ∃ (r : Int) (X : Option Addr) (c q : Nat) (xs : List Int), e = .returned (.agg #[.int .i64 r, .slice X xs.length c]) ∧ OwnV w' w.heap.size w'.heap.size (.slice X xs.length c) q xs ∧ xs.length ≤ m ∧ Dr g A len cap w w'
theorem DrawF.toV {g len cap m : Nat} {A : Option Addr} {w w' : World} {e : Ending} (h : DrawF g A len cap m w e w') : DrawV g A len cap m w e w' := by
  obtain ⟨r, X, c, xs, he, ho, hl, d⟩ := h
  obtain ⟨q, hv⟩ := ownV_of_row ho
  exact ⟨r, X, c, q, xs, he, hv, hl.2, d⟩
theorem ownV_set0 {w : World} {lo hi q c : Nat} {X : Option Addr} {xs : List Int} (h : OwnV w lo hi (.slice X xs.length c) q xs) (hp : 0 < xs.length) (z : Int) : OwnV (w.setCell ⟨q, 0, none⟩ (.int .i64 z)) lo hi (.slice X (xs.set 0 z).length c) q (xs.set 0 z) := by
  obtain ⟨A', c', he, hc, hm, hx⟩ := h
  injection he with e1 e2 e3
  subst e1 e3
  refine ⟨X, c, rfl, by simpa using hc, hm, fun _ => ?_⟩
  obtain ⟨a, b, d, m, F, h1, h2, h3⟩ := hx hp
  refine ⟨a, b, d, m, _, by simpa using h1, h2.set 0 (.int .i64 z), fun i hi => ?_⟩
  have hi' : i < xs.length := by simpa using hi
  by_cases e : i = 0
  · subst e
    rw [if_pos rfl]
    simp [List.getD_eq_getElem?_getD, hi']
  · rw [if_neg e, h3 i hi']
    have : (xs.set 0 z)[i]? = xs[i]? := by rw [List.getElem?_set_ne (by omega)]
    simp [List.getD_eq_getElem?_getD, this]

theorem Dr.push {g len cap : Nat} {A : Option Addr} {a u u' : World} {row : Option Nat} (h : Dr g A len cap a u) (hg : u.grownBy u' row) (hr : ∀ k, row = some k → a.heap.size ≤ k) (hga : g < a.heap.size) : Dr g A len cap a u' := by
  refine ⟨?_, hg.os.trans h.grown.os, hg.tape.trans h.grown.tape, hg.output.trans h.grown.output, Nat.le_trans h.grown.size hg.size, fun k hk hne => (hg.block k (by have := h.size; omega) fun e => by have := hr k e.symm; omega).trans (h.grown.block k hk hne)⟩
  have hl := h.cur.lt
  obtain ⟨i, z, hi, hh⟩ := h.cur
  exact ⟨i, z, hi, (hg.block g hl fun e => by have := hr g e.symm; omega).trans hh⟩
/-- What stands in l2AnyFact once a fact lies in its box. -/
def AnySt (g : Nat) (A : Option Addr) (len cap : Nat) (w u : World) (r : Int) (X : Option Addr) (c : Nat) (xs : List Int) : Prop :=
  Box u w.heap.size #[.int .i64 0, .slice none 0 0] 27 ∧ Box u (w.heap.size + 2) #[.int .i64 r, .slice X xs.length c] 27 ∧ u.ownsRow (w.heap.size + 1) 3 1 (.slice X xs.length c) xs.length (xs.map (Value.int .i64)) ∧ (1 ≤ xs.length ∧ xs.length ≤ 4) ∧ Dr g A len cap w u
theorem AnySt.dr {g len cap c : Nat} {A X : Option Addr} {w u u' : World} {r : Int} {xs : List Int} (h : AnySt g A len cap w u r X c xs) (hg : g < w.heap.size) (d : Dr g A len cap u u') : AnySt g A len cap w u' r X c xs :=
  ⟨h.1.dr (by omega) d, h.2.1.dr (by omega) d, own_kept h.2.2.1 (by omega) d.grown, h.2.2.2.1, h.2.2.2.2.trans d⟩
theorem AnySt.ne {g len cap c k : Nat} {A X : Option Addr} {w u : World} {r : Int} {xs : List Int} (h : AnySt g A len cap w u r X c xs) (hk : (Value.slice X xs.length c).ownBlock = some k) : k ≠ w.heap.size + 2 := by
  rintro rfl
  rcases h.2.2.1.2 with ⟨e, _⟩ | ⟨g', cap', cur, e, _, hh, _⟩
  · rw [e] at hk; simp [Value.ownBlock] at hk
  · rw [e] at hk
    have := own_some hk
    subst this
    have hb := h.2.1
    unfold Box at hb
    rw [hh] at hb
    injection hb with hb
    injection hb with _ ht
    exact absurd ht (by decide)
end Go.Proofs.YtigakhkhjjbboaaGreatDoor

namespace Go.Proofs.YtigakhkhjjbboaaGreatDoor
open Go.ChangeShapes Go.WideShapes Go.ChangeAt Go.RowKit Go.Sort
set_option linter.unusedVariables false
set_option linter.unusedSimpArgs false

theorem anyEnd2 {w u u' : World} {X : Option Addr} {c : Nat} {xs : List Int} {bcs : Array Value} (ho : u.ownsRow (w.heap.size + 1) 3 1 (.slice X xs.length c) xs.length (xs.map (Value.int .i64))) (hb : Box u (w.heap.size + 2) bcs 27) (hk : ∀ b, b ≠ w.heap.size → b ≠ w.heap.size + 2 → u'.heap[b]? = u.heap[b]?) (hs : u'.heap.size = u.heap.size) :
    ∃ q, OwnV u' w.heap.size u'.heap.size (.slice X xs.length c) q xs := by
  obtain ⟨q, hv⟩ := ownV_of_row ho
  refine ⟨q, (hv.keep fun h1 _ ⟨cc, hc⟩ => hk q (by omega) fun e => ?_).mono (by omega) (by omega)⟩
  unfold Box at hb
  rw [e] at hc
  rw [hc] at hb
  injection hb with hb
  injection hb with _ ht
  exact absurd ht (by decide)
theorem anyEnd {g len cap c : Nat} {A X : Option Addr} {w u u' : World} {r : Int} {xs : List Int} (h : AnySt g A len cap w u r X c xs) (hk : ∀ b, b ≠ w.heap.size → b ≠ w.heap.size + 2 → u'.heap[b]? = u.heap[b]?) (hs : u'.heap.size = u.heap.size) :
    ∃ q, OwnV u' w.heap.size u'.heap.size (.slice X xs.length c) q xs := anyEnd2 h.2.2.1 h.2.1 hk hs

set_option maxRecDepth 100000 in
set_option maxHeartbeats 4000000 in
theorem l2AnyFact_any (B g lo hi0 : Nat) (A : Option Addr) (len cap : Nat) (S : Option Addr) (cs : Nat) (s : List Int) (w : World) (hsl : s.length ≤ 4) (hS : Ints w lo hi0 S s) (hlo : g < lo) (hhi : hi0 ≤ w.heap.size)
    (hlen : len ≤ 1048576) (hg : B ≤ g) (hc : Cur w g A len cap) (hcode : CodeIn B w A len) :
    Calls Tryz.prog 43 #[.pointer (some ⟨g, 0, none⟩), .slice S s.length cs] w (DrawV g A len cap 4 w) := by
  obtain ⟨i0, hi, hz0, hz1, hz2⟩ := info_parts int_info
  have hgw := hc.lt
  have HC := Lib.hid fun (W : World) (d : Dr g A len cap w W) => hcode.below (d.below hg hgw)
  have HI := Lib.hid fun (W : World) (d : Dr g A len cap w W) => hS.dr hlo hhi d
  obtain ⟨W, hW⟩ : ∃ W, W = ((w.alloc (.cells #[.int .i64 0, .slice none 0 0] 27)).alloc (.cells #[.int .i64 1] 3)).alloc (.cells #[.int .i64 0, .slice (some ⟨w.heap.size + 1, 0, none⟩) 1 1] 27) := ⟨_, rfl⟩
  have ST0 := Lib.hid (show AnySt g A len cap w W 0 (some ⟨w.heap.size + 1, 0, none⟩) 1 [1] by
    rw [hW]
    refine ⟨((Box.new w _ _).step (below_alloc _ _)).step (below_alloc _ _), ?_, ?_, ⟨by simp, by simp⟩, (((Dr.refl hc).alloc _).alloc _).alloc _⟩
    · have := Box.new ((w.alloc (.cells #[.int .i64 0, .slice none 0 0] 27)).alloc (.cells #[.int .i64 1] 3)) #[.int .i64 0, .slice (some ⟨w.heap.size + 1, 0, none⟩) 1 1] 27
      simpa using this
    · have := World.ownsRow_lit (base := w.heap.size + 1) (e := 3) (size := 1) (w.alloc (.cells #[.int .i64 0, .slice none 0 0] 27)) #[.int .i64 1] 1 (by simp) (by unfold maxLen; omega) rfl
      rw [al_size] at this
      exact this.alloc _)
  have ZW := Lib.hid (show W.heap.size = w.heap.size + 3 by rw [hW]; simp)
  have XS := Lib.hid (spec_IsSchema lo hi0 S cs s (by omega) W (HI.out W ST0.out.2.2.2.2))
  have EW := Lib.hid hW
  clear hc hcode hS hW
  by_cases hs : schB s = true
  · have HSC := Lib.hid hs
    clear hs
    have XF := Lib.hid (l2Fact_any B g lo hi0 A len cap S cs s 10 W (by omega) (by omega) HSC.out (HI.out W ST0.out.2.2.2.2) hlo (by have := ZW.out; omega) hlen hg ST0.out.2.2.2.2.cur (HC.out _ ST0.out.2.2.2.2))
    go_enter Tryz.func43, Tryz.ntmps43
    go_wp2_with fail
    rw [← EW.out]
    refine XS.out.mono ?_
    rintro e w1 ⟨he, rfl⟩
    rw [HSC.out] at he
    subst he
    go_wp2_with fail
    refine XF.out.mono ?_
    rintro e w2 ⟨r, X, c, xs, rfl, hown, hxl, d⟩
    have b0 := (ST0.out.2.1.dr (by omega) d).cell 0
    have b1 := (ST0.out.2.1.dr (by omega) d).cell 1
    have b2 := (ST0.out.2.1.dr (by omega) d).frozen 0
    have b3 := (ST0.out.2.1.dr (by omega) d).frozen 1
    simp only [List.getElem?_toArray, List.getElem?_cons_zero, List.getElem?_cons_succ] at b0 b1
    have lb := (ST0.out.2.1.dr (by omega) d).lt
    have ST := Lib.hid (show AnySt g A len cap w ((w2.setCell ⟨w.heap.size + 2, 0, none⟩ (.int .i64 r)).setCell ⟨w.heap.size + 2, 1, none⟩ (.slice X xs.length c)) r X c xs from
      ⟨((ST0.out.1.dr (by omega) d).set_other (by simp)).set_other (by simp), ((ST0.out.2.1.dr (by omega) d).set 0 (.int .i64 r)).set 1 (.slice X xs.length c), ownsRow_lo (ownsRow_set (ownsRow_set hown (by have := ZW.out; (try simp); omega)) (by have := ZW.out; (try simp); omega)) (by have := ZW.out; omega), ⟨hxl.1, by omega⟩, ((ST0.out.2.2.2.2.trans d).setCell (by simp) hgw _).setCell (by simp) hgw _⟩)
    obtain ⟨u, hu⟩ : ∃ u, u = (w2.setCell ⟨w.heap.size + 2, 0, none⟩ (.int .i64 r)).setCell ⟨w.heap.size + 2, 1, none⟩ (.slice X xs.length c) := ⟨_, rfl⟩
    rw [← hu] at ST
    have EU := Lib.hid hu
    have hx3 := hxl.2
    clear hown hxl d hu ST0
    go_wp2_with fail
    rw [← EU.out]
    refine (l1Below_d B g A len cap 8 _ (by omega) (by omega) hlen hg ST.out.2.2.2.2.cur (HC.out _ ST.out.2.2.2.2)).mono ?_
    rintro e u1 ⟨x, rfl, hx0, hx1, d⟩
    have S1 := Lib.hid (ST.out.dr hgw d)
    have b0 := S1.out.2.1.cell 0
    have b1 := S1.out.2.1.cell 1
    have b2 := S1.out.2.1.frozen 0
    have b3 := S1.out.2.1.frozen 1
    have a0 := S1.out.1.cell 0
    have a1 := S1.out.1.cell 1
    have a2 := S1.out.1.frozen 0
    have a3 := S1.out.1.frozen 1
    simp only [List.getElem?_toArray, List.getElem?_cons_zero, List.getElem?_cons_succ] at b0 b1 a0 a1
    have l0 := S1.out.2.1.lt
    have hxl := S1.out.2.2.2.1
    clear d
    rcases (by omega : x = 0 ∨ x = 1 ∨ x = 2 ∨ 3 ≤ x) with rfl | rfl | rfl | hx3
    · clear b0 b1 b2 b3 a0 a1 a2 a3
      go_wp2_with fail
      refine (l1Below_d B g A len cap 5 _ (by omega) (by omega) hlen hg S1.out.2.2.2.2.cur (HC.out _ S1.out.2.2.2.2)).mono ?_
      rintro e u2 ⟨y, rfl, hy0, hy1, d⟩
      have S2 := Lib.hid (S1.out.dr hgw d)
      have b0 := S2.out.2.1.cell 0
      have b1 := S2.out.2.1.cell 1
      have b2 := S2.out.2.1.frozen 0
      have b3 := S2.out.2.1.frozen 1
      have a0 := S2.out.1.cell 0
      have a1 := S2.out.1.cell 1
      have a2 := S2.out.1.frozen 0
      have a3 := S2.out.1.frozen 1
      simp only [List.getElem?_toArray, List.getElem?_cons_zero, List.getElem?_cons_succ] at b0 b1 a0 a1
      have l2 := S2.out.2.1.lt
      clear d
      go_wp2
      refine bodyPost_ret (v := .agg #[.int .i64 (y - 1), .slice X xs.length c]) (by simp [results, Tryz.results43, go_sem, a0, a1, a2, a3, b0, b1, b2, b3]) rfl ?_
      obtain ⟨q, hv⟩ := anyEnd (u' := ((u2.setCell ⟨w.heap.size + 2, 0, none⟩ (.int .i64 (y - 1))).setCell ⟨w.heap.size, 0, none⟩ (.int .i64 (y - 1))).setCell ⟨w.heap.size, 1, none⟩ (.slice X xs.length c)) S2.out (fun b h1 h2 => (Below.heap_setCell _ ⟨w.heap.size, 1, none⟩ _ b h1).trans ((Below.heap_setCell _ ⟨w.heap.size, 0, none⟩ _ b h1).trans (Below.heap_setCell _ ⟨w.heap.size + 2, 0, none⟩ _ b h2))) (by rw [set_size, set_size, set_size])
      exact (show DrawV g A len cap 4 w _ _ from ⟨y - 1, X, c, q, xs, rfl, hv, by omega, ((S2.out.2.2.2.2.setCell (by (try simp) <;> omega) hgw _).setCell (Nat.le_refl _) hgw _).setCell (Nat.le_refl _) hgw _⟩)
    · obtain ⟨q, hv⟩ := ownV_of_row S1.out.2.2.1
      obtain ⟨_, cc, he, _, _, hq⟩ := id hv
      injection he with e1 e2 e3
      subst e1 e3
      obtain ⟨rfl, hq1, hq2, mm, FF, hmm, hrow, hF⟩ := hq (by omega)
      skip
      have NQ := Lib.hid (S1.out.ne (k := q) (by simp [Value.ownBlock]))
      have nq := NQ.out
      have c0 := World.rowIs.cell hrow (show 0 < mm by omega)
      have c1 := World.rowIs.frozen hrow 0
      rw [hF 0 (by omega)] at c0
      have HV := Lib.hid hv
      have HROW := Lib.hid hrow
      have XP := Lib.hid fun (V : World) (d : Dr g A len cap u1 V) (hV : ∀ k, k < 3 → V.cell? ⟨u1.heap.size, k, none⟩ = (#[Value.int .i64 (-1), .int .i64 9, .int .i64 10] : Array Value)[k]?) => l1PickInt_any B g A len cap u1.heap.size 3 V (by omega) (by omega) (by have := S1.out.2.2.2.2.cur.lt; omega) (fun k hk => by
        rw [hV k hk]
        rcases (by omega : k = 0 ∨ k = 1 ∨ k = 2) with rfl | rfl | rfl
        all_goals exact ⟨_, rfl, by omega, by omega⟩) hlen hg d.cur (HC.out _ (S1.out.2.2.2.2.trans d))
      have C1 := Lib.hid fun (k : Nat) => cell_new u1 #[Value.int .i64 (-1), .int .i64 9, .int .i64 10] 3 k
      have DD := Lib.hid (Dr.refl S1.out.2.2.2.2.cur)
      have hl1 : (0 : Int) < (xs.length : Int) := by omega
      have hl2 : 0 < xs.length := by omega
      clear hv hq hrow hF
      go_wp2
      go_region_law (first
        | (go_simp; go_at_call 81; refine (XP.out (World.drew (u1.alloc (.cells #[.int .i64 (-1), .int .i64 9, .int .i64 10] 3))) (DD.out.alloc _).drew (fun k hk => C1.out k)).mono ?_; rintro e u2 ⟨z, rfl, _, _, hc2, hg2⟩
           have D2 := Lib.hid (show Dr g A len cap u1 u2 from (DD.out.alloc (.cells #[.int .i64 (-1), .int .i64 9, .int .i64 10] 3)).drew.trans ⟨hc2, hg2⟩)
           have b12 := (S1.out.2.1.dr (by omega) D2.out).cell 1
           simp only [List.getElem?_toArray, List.getElem?_cons_zero, List.getElem?_cons_succ] at b12
           have c02 := (World.cell?_of_block (w := u1) (a := ⟨q, 0, none⟩) (D2.out.block (b := q) (by omega) (by omega))).trans c0
           have c12 := World.rowIs.frozen (World.rowIs.of_block HROW.out (D2.out.block (b := q) (by omega) (by omega))) 0
           clear hc2 hg2))
      all_goals
        have SA := S1.out.dr hgw D2.out
        have OV := HV.out.keep (w' := u2) (fun h1 h2 _ => D2.out.block (by omega) (by omega))
        have OV2 := ownV_set0 OV hl2 z
        have hx0 : Box (u2.setCell ⟨q, 0, none⟩ (.int .i64 z)) w.heap.size _ _ := SA.1.set_other (by (try simp); omega)
        have hx2 := SA.2.1.set_other (p := ⟨q, 0, none⟩) (u := .int .i64 z) (by (try simp); omega)
        have DV := SA.2.2.2.2.setCell (p := ⟨q, 0, none⟩) (by (try simp); omega) hgw (.int .i64 z)
        have su := D2.out.size
        obtain ⟨v3, hv3⟩ : ∃ v, v = u2.setCell ⟨q, 0, none⟩ (.int .i64 z) := ⟨_, rfl⟩
        have zv : v3.heap.size = u2.heap.size := by rw [hv3, set_size]
        rw [← hv3] at OV2 hx0 hx2 DV ⊢
        have QV := Lib.hid OV2
        have QD := Lib.hid DV
        have QZ := Lib.hid zv
        have QS := Lib.hid su
        clear b0 b1 b2 b3 a0 a1 a2 a3 b12 c02 c12 c0 c1
        have b0 := hx2.cell 0
        have b1 := hx2.cell 1
        have b2 := hx2.frozen 0
        have b3 := hx2.frozen 1
        have a0 := hx0.cell 0
        have a1 := hx0.cell 1
        have a2 := hx0.frozen 0
        have a3 := hx0.frozen 1
        simp only [List.getElem?_toArray, List.getElem?_cons_zero, List.getElem?_cons_succ] at b0 b1 a0 a1
        clear hx0 hx2 DV OV2 OV SA hv3 zv su
        go_wp2
        refine bodyPost_ret (v := .agg #[.int .i64 r, .slice (some ⟨q, 0, none⟩) xs.length c]) (by simp [results, Tryz.results43, go_sem, a0, a1, a2, a3, b0, b1, b2, b3]) rfl ?_
        refine (show DrawV g A len cap 4 w _ _ from ⟨r, some ⟨q, 0, none⟩, c, q, xs.set 0 z, by simp, ?_, by simp; omega, (QD.out.setCell (Nat.le_refl _) hgw _).setCell (Nat.le_refl _) hgw _⟩)
        rw [size2]
        exact (QV.out.keep fun h1 _ _ => (Below.heap_setCell _ ⟨w.heap.size, 1, none⟩ _ q (by (try simp at h1 ⊢); omega)).trans (Below.heap_setCell _ ⟨w.heap.size, 0, none⟩ _ q (by (try simp at h1 ⊢); omega))).mono (by omega) (by have := QZ.out; have := QS.out; omega)
    · have NB := Lib.hid fun (k : Nat) (e : (Value.slice X xs.length c).ownBlock = some k) => And.intro (S1.out.ne e) (S1.out.2.2.1.lt k e).1
      have LW : w.heap.size + 1 ≤ u1.heap.size := by omega
      go_wp2_with (at_builtin; refine wpList_pushG rfl _ _ _ 3 rfl i0 Tryz.underlying25 hi hz0 hz1 hz2 rfl rfl rfl S1.out.2.2.1 LW (by omega) ?_; intro v' w' hown' hg'; obtain ⟨A', c', rfl⟩ := ownsRow_form hown'
                   have hb2 : Box w' (w.heap.size + 2) #[.int .i64 r, .slice X xs.length c] 27 := (hg'.block _ l0 (fun e => (NB.out _ e.symm).1 rfl)).trans S1.out.2.1
                   have hb0 : Box w' w.heap.size #[.int .i64 0, .slice none 0 0] 27 := (hg'.block _ (by omega) (fun e => by have := (NB.out _ e.symm).2; omega)).trans S1.out.1
                   have O2 := Lib.hid (show w'.ownsRow (w.heap.size + 1) 3 1 (.slice A' (xs ++ [1]).length c') (xs ++ [1]).length ((xs ++ [1]).map (Value.int .i64)) by simpa using hown')
                   have D2 := Lib.hid (S1.out.2.2.2.2.push hg' (fun k e => by have := (NB.out k e).2; omega) hgw)
                   have H2 := Lib.hid hb2
                   have lw := hb2.lt
                   clear b0 b1 b2 b3 a0 a1 a2 a3
                   have b0 := hb2.cell 0
                   have b1 := hb2.cell 1
                   have b2 := hb2.frozen 0
                   have b3 := hb2.frozen 1
                   have a0 := hb0.cell 0
                   have a1 := hb0.cell 1
                   have a2 := hb0.frozen 0
                   have a3 := hb0.frozen 1
                   simp only [List.getElem?_toArray, List.getElem?_cons_zero, List.getElem?_cons_succ] at b0 b1 a0 a1
                   clear hb0 hb2 hown' hg')
      refine bodyPost_ret (v := .agg #[.int .i64 r, .slice A' (xs.length + 1) c']) (by simp [results, Tryz.results43, go_sem, a0, a1, a2, a3, b0, b1, b2, b3]) rfl ?_
      obtain ⟨q, hv⟩ := anyEnd2 (u' := ((w'.setCell ⟨w.heap.size + 2, 1, none⟩ (.slice A' (xs.length + 1) c')).setCell ⟨w.heap.size, 0, none⟩ (.int .i64 r)).setCell ⟨w.heap.size, 1, none⟩ (.slice A' (xs.length + 1) c')) O2.out H2.out (fun b h1 h2 => (Below.heap_setCell _ ⟨w.heap.size, 1, none⟩ _ b h1).trans ((Below.heap_setCell _ ⟨w.heap.size, 0, none⟩ _ b h1).trans (Below.heap_setCell _ ⟨w.heap.size + 2, 1, none⟩ _ b h2))) (by rw [set_size, set_size, set_size])
      exact (show DrawV g A len cap 4 w _ _ from ⟨r, A', c', q, xs ++ [1], by simp, hv, by simp; omega, ((D2.out.setCell (by (try simp) <;> omega) hgw _).setCell (Nat.le_refl _) hgw _).setCell (Nat.le_refl _) hgw _⟩)
    · have d0 : (x == 0) = false := by simp; omega
      have d1 : (x == 1) = false := by simp; omega
      have d2 : (x == 2) = false := by simp; omega
      go_wp2
      refine bodyPost_ret (v := .agg #[.int .i64 r, .slice X xs.length c]) (by simp [results, Tryz.results43, go_sem, a0, a1, a2, a3, b0, b1, b2, b3]) rfl ?_
      obtain ⟨q, hv⟩ := anyEnd (u' := (u1.setCell ⟨w.heap.size, 0, none⟩ (.int .i64 r)).setCell ⟨w.heap.size, 1, none⟩ (.slice X xs.length c)) S1.out (fun b h1 h2 => (Below.heap_setCell _ ⟨w.heap.size, 1, none⟩ _ b h1).trans (Below.heap_setCell _ ⟨w.heap.size, 0, none⟩ _ b h1)) (by rw [set_size, set_size])
      exact (show DrawV g A len cap 4 w _ _ from ⟨r, X, c, q, xs, rfl, hv, by omega, (S1.out.2.2.2.2.setCell (Nat.le_refl _) hgw _).setCell (Nat.le_refl _) hgw _⟩)
  · have HSC := Lib.hid (show schB s = false by simpa using hs)
    clear hs
    go_enter Tryz.func43, Tryz.ntmps43
    go_wp2_with fail
    rw [← EW.out]
    refine XS.out.mono ?_
    rintro e w1 ⟨he, rfl⟩
    rw [HSC.out] at he
    subst he
    obtain ⟨r, X, c, xs, ST, hx3⟩ : ∃ (r : Int) (X : Option Addr) (c : Nat) (xs : List Int), Hid (AnySt g A len cap w W r X c xs) ∧ xs.length ≤ 3 := ⟨_, _, _, _, ST0, by simp⟩
    clear ST0
    go_wp2_with fail
    refine (l1Below_d B g A len cap 8 _ (by omega) (by omega) hlen hg ST.out.2.2.2.2.cur (HC.out _ ST.out.2.2.2.2)).mono ?_
    rintro e u1 ⟨x, rfl, hx0, hx1, d⟩
    have S1 := Lib.hid (ST.out.dr hgw d)
    have b0 := S1.out.2.1.cell 0
    have b1 := S1.out.2.1.cell 1
    have b2 := S1.out.2.1.frozen 0
    have b3 := S1.out.2.1.frozen 1
    have a0 := S1.out.1.cell 0
    have a1 := S1.out.1.cell 1
    have a2 := S1.out.1.frozen 0
    have a3 := S1.out.1.frozen 1
    simp only [List.getElem?_toArray, List.getElem?_cons_zero, List.getElem?_cons_succ] at b0 b1 a0 a1
    have l0 := S1.out.2.1.lt
    have hxl := S1.out.2.2.2.1
    clear d
    rcases (by omega : x = 0 ∨ x = 1 ∨ x = 2 ∨ 3 ≤ x) with rfl | rfl | rfl | hx3
    · clear b0 b1 b2 b3 a0 a1 a2 a3
      go_wp2_with fail
      refine (l1Below_d B g A len cap 5 _ (by omega) (by omega) hlen hg S1.out.2.2.2.2.cur (HC.out _ S1.out.2.2.2.2)).mono ?_
      rintro e u2 ⟨y, rfl, hy0, hy1, d⟩
      have S2 := Lib.hid (S1.out.dr hgw d)
      have b0 := S2.out.2.1.cell 0
      have b1 := S2.out.2.1.cell 1
      have b2 := S2.out.2.1.frozen 0
      have b3 := S2.out.2.1.frozen 1
      have a0 := S2.out.1.cell 0
      have a1 := S2.out.1.cell 1
      have a2 := S2.out.1.frozen 0
      have a3 := S2.out.1.frozen 1
      simp only [List.getElem?_toArray, List.getElem?_cons_zero, List.getElem?_cons_succ] at b0 b1 a0 a1
      have l2 := S2.out.2.1.lt
      clear d
      go_wp2
      refine bodyPost_ret (v := .agg #[.int .i64 (y - 1), .slice X xs.length c]) (by simp [results, Tryz.results43, go_sem, a0, a1, a2, a3, b0, b1, b2, b3]) rfl ?_
      obtain ⟨q, hv⟩ := anyEnd (u' := ((u2.setCell ⟨w.heap.size + 2, 0, none⟩ (.int .i64 (y - 1))).setCell ⟨w.heap.size, 0, none⟩ (.int .i64 (y - 1))).setCell ⟨w.heap.size, 1, none⟩ (.slice X xs.length c)) S2.out (fun b h1 h2 => (Below.heap_setCell _ ⟨w.heap.size, 1, none⟩ _ b h1).trans ((Below.heap_setCell _ ⟨w.heap.size, 0, none⟩ _ b h1).trans (Below.heap_setCell _ ⟨w.heap.size + 2, 0, none⟩ _ b h2))) (by rw [set_size, set_size, set_size])
      exact (show DrawV g A len cap 4 w _ _ from ⟨y - 1, X, c, q, xs, rfl, hv, by omega, ((S2.out.2.2.2.2.setCell (by (try simp) <;> omega) hgw _).setCell (Nat.le_refl _) hgw _).setCell (Nat.le_refl _) hgw _⟩)
    · obtain ⟨q, hv⟩ := ownV_of_row S1.out.2.2.1
      obtain ⟨_, cc, he, _, _, hq⟩ := id hv
      injection he with e1 e2 e3
      subst e1 e3
      obtain ⟨rfl, hq1, hq2, mm, FF, hmm, hrow, hF⟩ := hq (by omega)
      skip
      have NQ := Lib.hid (S1.out.ne (k := q) (by simp [Value.ownBlock]))
      have nq := NQ.out
      have c0 := World.rowIs.cell hrow (show 0 < mm by omega)
      have c1 := World.rowIs.frozen hrow 0
      rw [hF 0 (by omega)] at c0
      have HV := Lib.hid hv
      have HROW := Lib.hid hrow
      have XP := Lib.hid fun (V : World) (d : Dr g A len cap u1 V) (hV : ∀ k, k < 3 → V.cell? ⟨u1.heap.size, k, none⟩ = (#[Value.int .i64 (-1), .int .i64 9, .int .i64 10] : Array Value)[k]?) => l1PickInt_any B g A len cap u1.heap.size 3 V (by omega) (by omega) (by have := S1.out.2.2.2.2.cur.lt; omega) (fun k hk => by
        rw [hV k hk]
        rcases (by omega : k = 0 ∨ k = 1 ∨ k = 2) with rfl | rfl | rfl
        all_goals exact ⟨_, rfl, by omega, by omega⟩) hlen hg d.cur (HC.out _ (S1.out.2.2.2.2.trans d))
      have C1 := Lib.hid fun (k : Nat) => cell_new u1 #[Value.int .i64 (-1), .int .i64 9, .int .i64 10] 3 k
      have DD := Lib.hid (Dr.refl S1.out.2.2.2.2.cur)
      have hl1 : (0 : Int) < (xs.length : Int) := by omega
      have hl2 : 0 < xs.length := by omega
      clear hv hq hrow hF
      go_wp2
      go_region_law (first
        | (go_simp; go_at_call 81; refine (XP.out (World.drew (u1.alloc (.cells #[.int .i64 (-1), .int .i64 9, .int .i64 10] 3))) (DD.out.alloc _).drew (fun k hk => C1.out k)).mono ?_; rintro e u2 ⟨z, rfl, _, _, hc2, hg2⟩
           have D2 := Lib.hid (show Dr g A len cap u1 u2 from (DD.out.alloc (.cells #[.int .i64 (-1), .int .i64 9, .int .i64 10] 3)).drew.trans ⟨hc2, hg2⟩)
           have b12 := (S1.out.2.1.dr (by omega) D2.out).cell 1
           simp only [List.getElem?_toArray, List.getElem?_cons_zero, List.getElem?_cons_succ] at b12
           have c02 := (World.cell?_of_block (w := u1) (a := ⟨q, 0, none⟩) (D2.out.block (b := q) (by omega) (by omega))).trans c0
           have c12 := World.rowIs.frozen (World.rowIs.of_block HROW.out (D2.out.block (b := q) (by omega) (by omega))) 0
           clear hc2 hg2))
      all_goals
        have SA := S1.out.dr hgw D2.out
        have OV := HV.out.keep (w' := u2) (fun h1 h2 _ => D2.out.block (by omega) (by omega))
        have OV2 := ownV_set0 OV hl2 z
        have hx0 : Box (u2.setCell ⟨q, 0, none⟩ (.int .i64 z)) w.heap.size _ _ := SA.1.set_other (by (try simp); omega)
        have hx2 := SA.2.1.set_other (p := ⟨q, 0, none⟩) (u := .int .i64 z) (by (try simp); omega)
        have DV := SA.2.2.2.2.setCell (p := ⟨q, 0, none⟩) (by (try simp); omega) hgw (.int .i64 z)
        have su := D2.out.size
        obtain ⟨v3, hv3⟩ : ∃ v, v = u2.setCell ⟨q, 0, none⟩ (.int .i64 z) := ⟨_, rfl⟩
        have zv : v3.heap.size = u2.heap.size := by rw [hv3, set_size]
        rw [← hv3] at OV2 hx0 hx2 DV ⊢
        have QV := Lib.hid OV2
        have QD := Lib.hid DV
        have QZ := Lib.hid zv
        have QS := Lib.hid su
        clear b0 b1 b2 b3 a0 a1 a2 a3 b12 c02 c12 c0 c1
        have b0 := hx2.cell 0
        have b1 := hx2.cell 1
        have b2 := hx2.frozen 0
        have b3 := hx2.frozen 1
        have a0 := hx0.cell 0
        have a1 := hx0.cell 1
        have a2 := hx0.frozen 0
        have a3 := hx0.frozen 1
        simp only [List.getElem?_toArray, List.getElem?_cons_zero, List.getElem?_cons_succ] at b0 b1 a0 a1
        clear hx0 hx2 DV OV2 OV SA hv3 zv su
        go_wp2
        refine bodyPost_ret (v := .agg #[.int .i64 r, .slice (some ⟨q, 0, none⟩) xs.length c]) (by simp [results, Tryz.results43, go_sem, a0, a1, a2, a3, b0, b1, b2, b3]) rfl ?_
        refine (show DrawV g A len cap 4 w _ _ from ⟨r, some ⟨q, 0, none⟩, c, q, xs.set 0 z, by simp, ?_, by simp; omega, (QD.out.setCell (Nat.le_refl _) hgw _).setCell (Nat.le_refl _) hgw _⟩)
        rw [size2]
        exact (QV.out.keep fun h1 _ _ => (Below.heap_setCell _ ⟨w.heap.size, 1, none⟩ _ q (by (try simp at h1 ⊢); omega)).trans (Below.heap_setCell _ ⟨w.heap.size, 0, none⟩ _ q (by (try simp at h1 ⊢); omega))).mono (by omega) (by have := QZ.out; have := QS.out; omega)
    · have NB := Lib.hid fun (k : Nat) (e : (Value.slice X xs.length c).ownBlock = some k) => And.intro (S1.out.ne e) (S1.out.2.2.1.lt k e).1
      have LW : w.heap.size + 1 ≤ u1.heap.size := by omega
      go_wp2_with (at_builtin; refine wpList_pushG rfl _ _ _ 3 rfl i0 Tryz.underlying25 hi hz0 hz1 hz2 rfl rfl rfl S1.out.2.2.1 LW (by omega) ?_; intro v' w' hown' hg'; obtain ⟨A', c', rfl⟩ := ownsRow_form hown'
                   have hb2 : Box w' (w.heap.size + 2) #[.int .i64 r, .slice X xs.length c] 27 := (hg'.block _ l0 (fun e => (NB.out _ e.symm).1 rfl)).trans S1.out.2.1
                   have hb0 : Box w' w.heap.size #[.int .i64 0, .slice none 0 0] 27 := (hg'.block _ (by omega) (fun e => by have := (NB.out _ e.symm).2; omega)).trans S1.out.1
                   have O2 := Lib.hid (show w'.ownsRow (w.heap.size + 1) 3 1 (.slice A' (xs ++ [1]).length c') (xs ++ [1]).length ((xs ++ [1]).map (Value.int .i64)) by simpa using hown')
                   have D2 := Lib.hid (S1.out.2.2.2.2.push hg' (fun k e => by have := (NB.out k e).2; omega) hgw)
                   have H2 := Lib.hid hb2
                   have lw := hb2.lt
                   clear b0 b1 b2 b3 a0 a1 a2 a3
                   have b0 := hb2.cell 0
                   have b1 := hb2.cell 1
                   have b2 := hb2.frozen 0
                   have b3 := hb2.frozen 1
                   have a0 := hb0.cell 0
                   have a1 := hb0.cell 1
                   have a2 := hb0.frozen 0
                   have a3 := hb0.frozen 1
                   simp only [List.getElem?_toArray, List.getElem?_cons_zero, List.getElem?_cons_succ] at b0 b1 a0 a1
                   clear hb0 hb2 hown' hg')
      refine bodyPost_ret (v := .agg #[.int .i64 r, .slice A' (xs.length + 1) c']) (by simp [results, Tryz.results43, go_sem, a0, a1, a2, a3, b0, b1, b2, b3]) rfl ?_
      obtain ⟨q, hv⟩ := anyEnd2 (u' := ((w'.setCell ⟨w.heap.size + 2, 1, none⟩ (.slice A' (xs.length + 1) c')).setCell ⟨w.heap.size, 0, none⟩ (.int .i64 r)).setCell ⟨w.heap.size, 1, none⟩ (.slice A' (xs.length + 1) c')) O2.out H2.out (fun b h1 h2 => (Below.heap_setCell _ ⟨w.heap.size, 1, none⟩ _ b h1).trans ((Below.heap_setCell _ ⟨w.heap.size, 0, none⟩ _ b h1).trans (Below.heap_setCell _ ⟨w.heap.size + 2, 1, none⟩ _ b h2))) (by rw [set_size, set_size, set_size])
      exact (show DrawV g A len cap 4 w _ _ from ⟨r, A', c', q, xs ++ [1], by simp, hv, by simp; omega, ((D2.out.setCell (by (try simp) <;> omega) hgw _).setCell (Nat.le_refl _) hgw _).setCell (Nat.le_refl _) hgw _⟩)
    · have d0 : (x == 0) = false := by simp; omega
      have d1 : (x == 1) = false := by simp; omega
      have d2 : (x == 2) = false := by simp; omega
      go_wp2
      refine bodyPost_ret (v := .agg #[.int .i64 r, .slice X xs.length c]) (by simp [results, Tryz.results43, go_sem, a0, a1, a2, a3, b0, b1, b2, b3]) rfl ?_
      obtain ⟨q, hv⟩ := anyEnd (u' := (u1.setCell ⟨w.heap.size, 0, none⟩ (.int .i64 r)).setCell ⟨w.heap.size, 1, none⟩ (.slice X xs.length c)) S1.out (fun b h1 h2 => (Below.heap_setCell _ ⟨w.heap.size, 1, none⟩ _ b h1).trans (Below.heap_setCell _ ⟨w.heap.size, 0, none⟩ _ b h1)) (by rw [set_size, set_size])
      exact (show DrawV g A len cap 4 w _ _ from ⟨r, X, c, q, xs, rfl, hv, by omega, (S1.out.2.2.2.2.setCell (Nat.le_refl _) hgw _).setCell (Nat.le_refl _) hgw _⟩)
end Go.Proofs.YtigakhkhjjbboaaGreatDoor

namespace Go.Proofs.YtigakhkhjjbboaaGreatDoor
open Go.ChangeShapes Go.WideShapes Go.ChangeAt Go.RowKit Go.Sort
set_option linter.unusedVariables false
set_option linter.unusedSimpArgs false

theorem OwnC.drc {w w' : World} {lo g len cap : Nat} {A : Option Addr} {v : Value} {fs : FL} {cs : List Value} {bs : Nat → Nat} (h : OwnC w lo w.heap.size v fs cs bs) (hl : g < lo) (d : Dr g A len cap w w') : OwnC w' lo w.heap.size v fs cs bs :=
  ⟨own_kept h.1 hl d.grown, h.2.keep fun q h1 h2 _ => d.block h2 (by omega)⟩

set_option maxRecDepth 100000 in
set_option maxHeartbeats 4000000 in
theorem l2AnyFacts_any (B g lo hi0 : Nat) (A : Option Addr) (len cap : Nat) (S : Option Addr) (cs : Nat) (s : List Int) (w : World) (hsl : s.length ≤ 4) (hS : Ints w lo hi0 S s) (hlo : g < lo) (hhi : hi0 ≤ w.heap.size)
    (hlen : len ≤ 1048576) (hg : B ≤ g) (hc : Cur w g A len cap) (hcode : CodeIn B w A len) :
    Calls Tryz.prog 40 #[.pointer (some ⟨g, 0, none⟩), .slice S s.length cs] w (DrawL g A len cap 40 w) := by
  obtain ⟨i0, hi, hz0, hz1, hz2⟩ := info_parts fact_info
  have hgw := hc.lt
  have HC := Lib.hid fun (W : World) (d : Dr g A len cap w W) => hcode.below (d.below hg hgw)
  have HI := Lib.hid fun (W : World) (d : Dr g A len cap w W) => hS.dr hlo hhi d
  have D0 := Lib.hid ((Dr.refl hc).alloc (.cells #[] 27))
  have O0 := Lib.hid (show OwnC (w.alloc (.cells #[] 27)) w.heap.size (w.alloc (.cells #[] 27)).heap.size (.slice (some ⟨w.heap.size, 0, none⟩) 0 0) [] [] (fun _ => 0) from
    ⟨World.ownsRow_lit (base := w.heap.size) (e := 27) (size := 2) w #[] 0 (Nat.le_refl _) (by unfold maxLen; omega) rfl, Items.nil _ _ _⟩)
  have XS := Lib.hid (spec_IsSchema lo hi0 S cs s (by omega) _ (HI.out _ D0.out))
  clear hc hcode hS
  by_cases hs : schB s = true
  · have HSC := Lib.hid hs
    clear hs
    have XF := Lib.hid (l2Facts_any B g lo hi0 A len cap S cs s 8 _ (by omega) (by omega) HSC.out (HI.out _ D0.out) hlo (by have := D0.out.size; omega) hlen hg D0.out.cur (HC.out _ D0.out))
    go_enter Tryz.func40, Tryz.ntmps40
    go_wp2_with fail
    refine XS.out.mono ?_
    rintro e w1 ⟨he, rfl⟩
    rw [HSC.out] at he
    subst he
    go_wp2_with fail
    refine XF.out.mono ?_
    rintro e w1 ⟨X, c, fs, csl, bs, rfl, ho, hz, d⟩
    have D1 := Lib.hid (D0.out.trans d)
    have O1 := Lib.hid (ho.lo D0.out.size)
    have Z1 := Lib.hid hz
    clear ho hz d
    go_wp2_with fail
    refine (l1Once_any B g A len cap 10 _ (by omega) (by omega) hlen hg D1.out.cur (HC.out _ D1.out)).mono ?_
    rintro e w3 ⟨b, rfl, d⟩
    have D3 := Lib.hid (D1.out.trans d)
    have O3 := Lib.hid (O1.out.dr hgw d)
    clear d
    cases b
    · go_wp2
      go_ret
      exact ⟨X, c, fs, csl, bs, rfl, O3.out, by have := Z1.out; omega, D3.out⟩
    · go_wp2_with fail
      refine (l2AnyFact_any B g lo hi0 A len cap S cs s w3 hsl (HI.out _ D3.out) hlo (by have := D3.out.size; omega) hlen hg D3.out.cur (HC.out _ D3.out)).mono ?_
      rintro e w4 ⟨r, X4, c4, q4, xs, rfl, hv, hx4, d⟩
      have D4 := Lib.hid (D3.out.trans d)
      have O4 := Lib.hid ((O3.out.drc hgw d).cur d.size (below_alloc w4 (.cells #[.int .i64 r, .slice X4 xs.length c4] 27)))
      have V4 := Lib.hid (hv.step (below_alloc w4 (.cells #[.int .i64 r, .slice X4 xs.length c4] 27)))
      have n3 := D3.out.size
      have n4 := d.size
      have LN := Lib.hid (szF_len (l := fs) (by have := Z1.out; omega))
      have LN2 : (fs : FL).length ≤ 40 := by have := Z1.out; unfold szF at this; omega
      clear d hv
      go_wp2_with (at_builtin; refine wpList_append_lies _ rfl _ _ 24 rfl w.heap.size 27 i0 _ 2 32 Tryz.underlying24 hi hz0 hz1 hz2 rfl (by omega) (.slice (some X) (fs : FL).length c) (fs : FL).length csl rfl O4.out.1 ⟨w4.heap.size, 0, none⟩ 1 1 [.int .i64 r, .slice X4 xs.length c4] rfl rfl (World.news_of_block (cs := #[.int .i64 r, .slice X4 xs.length c4]) (t := 27) (fr := (0, 0)) (heap_alloc_new w4 _)) (by simp [Value.oneCell']) (by omega) (by unfold maxLen; omega) (by omega) (by (try simp) <;> omega) (w4.heap.size + 1) (by simp) ?_; intro g8 cap8 v8 hown8 hgrow8 hat8 hlt8
                   obtain ⟨bs8, ho8⟩ := own_append O4.out (Items.one V4.out) (by omega) (by (try simp) <;> omega) hown8 hgrow8
                   have O8 := Lib.hid ho8
                   have D8 := Lib.hid ((D4.out.alloc (.cells #[.int .i64 r, .slice X4 xs.length c4] 27)).push hgrow8 (fun k e => (O4.out.1.lt k e).1) hgw)
                   clear hown8 hgrow8 hat8 hlt8 ho8)
      go_ret
      exact ⟨⟨g8, 0, none⟩, cap8, fs ++ [(r, xs)], _, bs8, by simp, by have := O8.out; simpa using this, by have := Z1.out; simp [szF, sumN] at *; omega, D8.out⟩
  · have HSC := Lib.hid (show schB s = false by simpa using hs)
    clear hs
    go_enter Tryz.func40, Tryz.ntmps40
    go_wp2_with fail
    refine XS.out.mono ?_
    rintro e w1 ⟨he, rfl⟩
    rw [HSC.out] at he
    subst he
    have D1 := D0
    have O1 := O0
    have Z1 := Lib.hid (show szF ([] : FL) ≤ 32 by simp [szF, sumN])
    clear D0 O0
    go_wp2_with fail
    refine (l1Once_any B g A len cap 10 _ (by omega) (by omega) hlen hg D1.out.cur (HC.out _ D1.out)).mono ?_
    rintro e w3 ⟨b, rfl, d⟩
    have D3 := Lib.hid (D1.out.trans d)
    have O3 := Lib.hid (O1.out.dr hgw d)
    clear d
    cases b
    · go_wp2
      go_ret
      exact ⟨⟨w.heap.size, 0, none⟩, 0, [], [], (fun _ => 0), rfl, O3.out, by have := Z1.out; omega, D3.out⟩
    · go_wp2_with fail
      refine (l2AnyFact_any B g lo hi0 A len cap S cs s w3 hsl (HI.out _ D3.out) hlo (by have := D3.out.size; omega) hlen hg D3.out.cur (HC.out _ D3.out)).mono ?_
      rintro e w4 ⟨r, X4, c4, q4, xs, rfl, hv, hx4, d⟩
      have D4 := Lib.hid (D3.out.trans d)
      have O4 := Lib.hid ((O3.out.drc hgw d).cur d.size (below_alloc w4 (.cells #[.int .i64 r, .slice X4 xs.length c4] 27)))
      have V4 := Lib.hid (hv.step (below_alloc w4 (.cells #[.int .i64 r, .slice X4 xs.length c4] 27)))
      have n3 := D3.out.size
      have n4 := d.size
      have LN := Lib.hid (szF_len (l := []) (by have := Z1.out; omega))
      have LN2 : ([] : FL).length ≤ 40 := by have := Z1.out; unfold szF at this; omega
      clear d hv
      go_wp2_with (at_builtin; refine wpList_append_lies _ rfl _ _ 24 rfl w.heap.size 27 i0 _ 2 32 Tryz.underlying24 hi hz0 hz1 hz2 rfl (by omega) (.slice (some ⟨w.heap.size, 0, none⟩) ([] : FL).length 0) ([] : FL).length [] rfl O4.out.1 ⟨w4.heap.size, 0, none⟩ 1 1 [.int .i64 r, .slice X4 xs.length c4] rfl rfl (World.news_of_block (cs := #[.int .i64 r, .slice X4 xs.length c4]) (t := 27) (fr := (0, 0)) (heap_alloc_new w4 _)) (by simp [Value.oneCell']) (by omega) (by unfold maxLen; omega) (by omega) (by (try simp) <;> omega) (w4.heap.size + 1) (by simp) ?_; intro g8 cap8 v8 hown8 hgrow8 hat8 hlt8
                   obtain ⟨bs8, ho8⟩ := own_append O4.out (Items.one V4.out) (by omega) (by (try simp) <;> omega) hown8 hgrow8
                   have O8 := Lib.hid ho8
                   have D8 := Lib.hid ((D4.out.alloc (.cells #[.int .i64 r, .slice X4 xs.length c4] 27)).push hgrow8 (fun k e => (O4.out.1.lt k e).1) hgw)
                   clear hown8 hgrow8 hat8 hlt8 ho8)
      go_ret
      exact ⟨⟨g8, 0, none⟩, cap8, [] ++ [(r, xs)], _, bs8, by simp, by have := O8.out; simpa using this, by have := Z1.out; simp [szF, sumN] at *; omega, D8.out⟩
end Go.Proofs.YtigakhkhjjbboaaGreatDoor
