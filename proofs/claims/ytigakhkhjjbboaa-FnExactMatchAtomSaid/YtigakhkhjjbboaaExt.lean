/- What extend leaves. Conditions: none beyond each theorem's own. -/
import Derived.Test.YtigakhkhjjbboaaRowV
import Derived.Deep.RegionLaw
import Derived.Deep.DeepCutAuto
namespace Go.Proofs.Ytigakhkhjjbboaa
open Go.ChangeShapes Go.WideShapes Go.ChangeAt Go.RowKit Go.Sort
open Go.Maps (Keyed int_keyed keyOf_int_mk)
set_option linter.unusedVariables false
set_option linter.unusedSimpArgs false

/-- A binding that is being extended: its box at g, two rows of its own. -/
def EBd (w : World) (base g : Nat) (X : Option Addr) (cx : Nat) (Y : Option Addr) (cy : Nat) (xs ys : List Int) : Prop :=
  Box w g #[.slice X xs.length cx, .slice Y ys.length cy] 32 ∧ RowV w base (.slice X xs.length cx) xs ∧ RowV w base (.slice Y ys.length cy) ys ∧ Apart (.slice X xs.length cx) (.slice Y ys.length cy) ∧ base ≤ g
theorem row_ne_box {w : World} {base g : Nat} {v : Value} {xs : List Int} {cs : Array Value} (h : RowV w base v xs) (hb : Box w g cs 32) : some g ≠ v.ownBlock := by
  intro e
  rcases h.2 with ⟨hv, _⟩ | ⟨k, cap, cur, hv, hbk, hk, _⟩
  · rw [hv] at e; cases e
  · rw [hv] at e
    injection e with e
    have e' : g = k := e
    unfold Box at hb
    rw [e', hk] at hb
    injection hb with hb
    injection hb with _ h2
    exact absurd h2 (by decide)
theorem Box.grown {w w' : World} {base g : Nat} {v : Value} {xs : List Int} {cs : Array Value} (hb : Box w g cs 32) (h : RowV w base v xs) (hg : w.grownBy w' v.ownBlock) : Box w' g cs 32 :=
  (hg.block g hb.lt (row_ne_box h hb)).trans hb
theorem apart_at {u : World} {base : Nat} {v v' y : Value} {ys : List Int} (ha : Apart v y) (hy : RowV u base y ys) (hat : v'.ownBlock = v.ownBlock ∨ v'.ownBlock = some u.heap.size) : Apart v' y := by
  rcases hat with hat | hat
  · unfold Apart at *; rw [hat]; exact ha
  · refine .inr fun e => ?_
    have := World.ownsRow.lt hy _ (e.symm.trans hat)
    omega
theorem EBd.push1 {w u w' : World} {base g : Nat} {X : Option Addr} {cx : Nat} {Y : Option Addr} {cy : Nat} {xs ys xs' : List Int} (h : EBd w base g X cx Y cy xs ys) (hb : Below w.heap.size w u) {X' : Option Addr} {c' : Nat}
    (hv : RowV w' base (.slice X' xs'.length c') xs') (hg : u.grownBy w' (Value.slice X xs.length cx).ownBlock) (hat : (Value.slice X' xs'.length c').ownBlock = (Value.slice X xs.length cx).ownBlock ∨ (Value.slice X' xs'.length c').ownBlock = some u.heap.size) :
    Box w' g #[.slice X xs.length cx, .slice Y ys.length cy] 32 ∧ EBd (w'.setCell ⟨g, 0, none⟩ (.slice X' xs'.length c')) base g X' c' Y cy xs' ys := by
  obtain ⟨h1, h2, h3, h4, h5⟩ := h
  have k1 := (h1.step hb).grown (h2.below hb) hg
  have k3 := (h3.below hb).kept hg (h4.symm)
  exact ⟨k1, k1.set 0 (.slice X' xs'.length c'), hv.set k1 (by decide), k3.set k1 (by decide), apart_at h4 (h3.below hb) hat, h5⟩
theorem EBd.push2 {w u w' : World} {base g : Nat} {X : Option Addr} {cx : Nat} {Y : Option Addr} {cy : Nat} {xs ys ys' : List Int} (h : EBd w base g X cx Y cy xs ys) (hb : Below w.heap.size w u) {Y' : Option Addr} {c' : Nat}
    (hv : RowV w' base (.slice Y' ys'.length c') ys') (hg : u.grownBy w' (Value.slice Y ys.length cy).ownBlock) (hat : (Value.slice Y' ys'.length c').ownBlock = (Value.slice Y ys.length cy).ownBlock ∨ (Value.slice Y' ys'.length c').ownBlock = some u.heap.size) :
    Box w' g #[.slice X xs.length cx, .slice Y ys.length cy] 32 ∧ EBd (w'.setCell ⟨g, 1, none⟩ (.slice Y' ys'.length c')) base g X cx Y' c' xs ys' := by
  obtain ⟨h1, h2, h3, h4, h5⟩ := h
  have k1 := (h1.step hb).grown (h3.below hb) hg
  have k2 := (h2.below hb).kept hg h4
  exact ⟨k1, k1.set 1 (.slice Y' ys'.length c'), k2.set k1 (by decide), hv.set k1 (by decide), (apart_at h4.symm (h2.below hb) hat).symm, h5⟩

theorem ri_one (w : World) (x : Int) : RI (w.alloc (.cells #[.int .i64 x] 3)) (some ⟨w.heap.size, 0, none⟩) [x] := fun _ => by
  refine ⟨w.heap.size, 0, rfl, Nat.zero_le _, by rw [al_size]; omega, fun k hk => ?_⟩
  obtain rfl : k = 0 := by simpa using hk
  simp

def exTab (ts vs : List Int) : Nat → Option (List Int)
  | 2 => some ts | 5 => some vs | _ => none
def exCons : Nat → Nat
  | 2 => 8 | 5 => 8 | _ => 9
def exVals (g : Nat) (x y : Value) : Nat → Option Value
  | 0 => some (.pointer (some ⟨g, 0, none⟩)) | 1 => some x | 3 => some (.pointer (some ⟨g, 1, none⟩)) | 4 => some y | _ => none


def x6Vals (gb g : Nat) (y : Value) (mb : Nat) (x pv : Int) : Nat → Option Value
  | 0 => some (.pointer (some ⟨gb, 1, none⟩)) | 1 => some y | 2 => some (.pointer (some ⟨g, 0, none⟩)) | 3 => some (.pointer (some ⟨g, 0, none⟩)) | 4 => some (.pointer (some ⟨g, 0, none⟩)) | 5 => some (.map (some mb)) | 6 => some (.int .i64 x) | 7 => some (.int .i64 pv) | 10 => some (.pointer (some ⟨gb, 1, none⟩)) | _ => none

set_option maxRecDepth 100000 in
set_option maxHeartbeats 4000000 in
theorem extend_any (base g : Nat) (A B : Option Addr) (c d : Nat) (ts vs : List Int) (q : PL) (ads : List Int) (hts : ts.length ≤ 1048576) (hvs : vs.length ≤ 1048576) (hads : ads.length ≤ 1048576) (hwf : ∀ x ∈ ads, wf x)
    (w : World) (hbw : base ≤ w.heap.size) (hA : RI w A ts) (hB : RI w B vs) (h : MS w base g (ts, vs) q ads) :
    Calls Try.prog 28 #[.pointer (some ⟨g, 0, none⟩), .agg #[.slice A ts.length c, .slice B vs.length d]] w fun e w' => ∃ X c' Y d', e = .returned (.agg #[.slice X q.1.length c', .slice Y q.2.length d']) ∧ RowV w' w.heap.size (.slice X q.1.length c') q.1 ∧ RowV w' w.heap.size (.slice Y q.2.length d') q.2 ∧ Apart (.slice X q.1.length c') (.slice Y q.2.length d') ∧ Below w.heap.size w w' := by
  have B0 := Lib.hid (step (below_alloc w (.cells #[.slice A ts.length c, .slice B vs.length d] 32)) (below_alloc _ (.cells #[.slice none 0 0, .slice none 0 0] 32)))
  have X0 := Lib.hid ((Box.new w #[.slice A ts.length c, .slice B vs.length d] 32).step (below_alloc _ (.cells #[.slice none 0 0, .slice none 0 0] 32)))
  have Y0 := Lib.hid (Box.new (w.alloc (.cells #[.slice A ts.length c, .slice B vs.length d] 32)) #[.slice none 0 0, .slice none 0 0] 32)
  rw [al_size] at Y0
  have HA := Lib.hid (hA.step B0.out)
  have HB := Lib.hid (hB.step B0.out)
  have H0 := Lib.hid (MS.below hbw h B0.out)
  have HW := Lib.hid hwf
  obtain ⟨w0, hw0⟩ : ∃ W, W = (w.alloc (.cells #[.slice A ts.length c, .slice B vs.length d] 32)).alloc (.cells #[.slice none 0 0, .slice none 0 0] 32) := ⟨_, rfl⟩
  have E0 := Lib.hid hw0
  rw [← hw0] at B0 X0 Y0 HA HB H0
  have hsz : w.heap.size + 2 = w0.heap.size := by rw [hw0, al_size, al_size]
  have x0 := X0.out.cell 0
  have x1 := X0.out.cell 1
  simp only [List.getElem?_toArray, List.getElem?_cons_zero, List.getElem?_cons_succ] at x0 x1
  clear hA hB h hwf hw0
  go_enter Try.func28, Try.ntmps28
  go_upto_region 1 with fail
  rw [← E0.out]
  refine wp_region_inv rfl (by kernel_rfl) (fun listed a u => ∃ T : Nat → Value, a = (⟨#[Value.pointer (some ⟨g, 0, none⟩), Value.agg #[Value.slice A ts.length c, Value.slice B vs.length d], undef, Value.pointer (some ⟨w.heap.size, 0, none⟩), Value.pointer (some ⟨w.heap.size + 1, 0, none⟩), T 7, undef, undef, T 0, T 1, T 2, T 3, T 4, T 5, T 6, undef, undef, undef, undef, undef, undef, undef, undef, undef, undef, undef, undef, undef, undef, undef, undef, undef, undef, undef, undef, undef, undef, undef, undef, undef, undef, undef, undef], []⟩ : Act) ∧
    (listed.getD 8 false = false → RInv (exTab ts vs) exCons (exVals w.heap.size (.slice A ts.length c) (.slice B vs.length d)) w0 listed T u ∧ (listed.getD 6 false = true → T 6 = .agg #[T 2, T 5]) ∧ (listed.getD 7 false = true → ∃ gb, T 7 = .pointer (some ⟨gb, 0, none⟩) ∧ Box u gb #[.slice none 0 0, .slice none 0 0] 32 ∧ w0.heap.size ≤ gb)) ∧
    (listed.getD 8 false = true → ∃ gb X cx Y cy, T 7 = .pointer (some ⟨gb, 0, none⟩) ∧ EBd u w0.heap.size gb X cx Y cy ts vs ∧ Below w0.heap.size w0 u)) ?_ ?_ ?_
  · refine ⟨fun _ => undef, rfl, fun _ => ⟨RInv.start _, fun h => ?_, fun h => ?_⟩, fun h => ?_⟩ <;> exact absurd h (by decide)
  · rintro listed a u i hi hz hc ⟨T, rfl, h1, h2⟩
    have hlt : i < 9 := ready_lt hi
    have hs : i < listed.size := by rw [hz]; exact ready_lt hi
    have hn := ready_new hi hz
    have n9 : listed.getD 8 false = false := by
      obtain rfl | rfl | rfl | rfl | rfl | rfl | rfl | rfl | rfl : i = 0 ∨ i = 1 ∨ i = 2 ∨ i = 3 ∨ i = 4 ∨ i = 5 ∨ i = 6 ∨ i = 7 ∨ i = 8 := by omega
      all_goals first | exact hn | exact not_yet hc hn 0 8 (by kernel_rfl)
    obtain ⟨I0, h6, h7⟩ := h1 n9
    clear h1 h2
    by_cases hlt8 : i < 6
    · have n8 : listed.getD 6 false = false := by
        obtain rfl | rfl | rfl | rfl | rfl | rfl : i = 0 ∨ i = 1 ∨ i = 2 ∨ i = 3 ∨ i = 4 ∨ i = 5 := by omega
        all_goals exact not_yet hc hn 3 6 (by kernel_rfl)
      have key : ∀ (v : Value) (u' : World), RInv (exTab ts vs) exCons (exVals w.heap.size (.slice A ts.length c) (.slice B vs.length d)) w0 (listed.setIfInBounds i true) (upd T i v) u' → Below u.heap.size u u' → ∀ a', a' = (⟨#[Value.pointer (some ⟨g, 0, none⟩), Value.agg #[Value.slice A ts.length c, Value.slice B vs.length d], undef, Value.pointer (some ⟨w.heap.size, 0, none⟩), Value.pointer (some ⟨w.heap.size + 1, 0, none⟩), upd T i v 7, undef, undef, upd T i v 0, upd T i v 1, upd T i v 2, upd T i v 3, upd T i v 4, upd T i v 5, upd T i v 6, undef, undef, undef, undef, undef, undef, undef, undef, undef, undef, undef, undef, undef, undef, undef, undef, undef, undef, undef, undef, undef, undef, undef, undef, undef, undef, undef, undef], []⟩ : Act) → _ :=
        fun v u' hr hbu a' ha => (⟨upd T i v, ha, fun _ => ⟨hr, fun h => absurd h (by rw [getD_set hs, if_neg (by omega), n8]; decide), fun h => by
          rw [getD_set hs, if_neg (by omega)] at h
          obtain ⟨gb, k1, k2, k3⟩ := h7 h
          exact ⟨gb, by rw [upd_ne (by omega)]; exact k1, k2.step hbu, k3⟩⟩, fun h => absurd h (by rw [getD_set hs, if_neg (by omega), n9]; decide)⟩ : (fun listed a u => ∃ T : Nat → Value, a = (⟨#[Value.pointer (some ⟨g, 0, none⟩), Value.agg #[Value.slice A ts.length c, Value.slice B vs.length d], undef, Value.pointer (some ⟨w.heap.size, 0, none⟩), Value.pointer (some ⟨w.heap.size + 1, 0, none⟩), T 7, undef, undef, T 0, T 1, T 2, T 3, T 4, T 5, T 6, undef, undef, undef, undef, undef, undef, undef, undef, undef, undef, undef, undef, undef, undef, undef, undef, undef, undef, undef, undef, undef, undef, undef, undef, undef, undef, undef, undef], []⟩ : Act) ∧
    (listed.getD 8 false = false → RInv (exTab ts vs) exCons (exVals w.heap.size (.slice A ts.length c) (.slice B vs.length d)) w0 listed T u ∧ (listed.getD 6 false = true → T 6 = .agg #[T 2, T 5]) ∧ (listed.getD 7 false = true → ∃ gb, T 7 = .pointer (some ⟨gb, 0, none⟩) ∧ Box u gb #[.slice none 0 0, .slice none 0 0] 32 ∧ w0.heap.size ≤ gb)) ∧
    (listed.getD 8 false = true → ∃ gb X cx Y cy, T 7 = .pointer (some ⟨gb, 0, none⟩) ∧ EBd u w0.heap.size gb X cx Y cy ts vs ∧ Below w0.heap.size w0 u)) (listed.setIfInBounds i true) a' u')
      obtain rfl | rfl | rfl | rfl | rfl | rfl : i = 0 ∨ i = 1 ∨ i = 2 ∨ i = 3 ∨ i = 4 ∨ i = 5 := by omega
      · refine wpOp_plain rfl rfl (fun K' hK => ?_)
        go_simp
        exact hK _ _ (key _ _ (I0.quiet hs (Below.refl _ _) rfl (by rintro x ⟨⟩; rfl)) (Below.refl _ _) _ rfl)
      · refine wpOp_plain rfl rfl (fun K' hK => ?_)
        have e1 := I0.val (ready_dep hi (j := 0) (by kernel_rfl)) rfl
        have hx := (I0.below.cell (p := ⟨w.heap.size, 0, none⟩) (by simp; omega)).trans x0
        go_simp
        exact hK _ _ (key (.slice A ts.length c) _ (I0.quiet hs (Below.refl _ _) rfl (by rintro x ⟨⟩; rfl)) (Below.refl _ _) _ (by simp [upd, e1]))
      · refine wpOp_plain rfl rfl (fun K' hK => ?_)
        have e1 := I0.val (ready_dep hi (j := 1) (by kernel_rfl)) rfl
        rw [e1]
        go_simp
        go_at_call 34
        refine (clone_row A c ts hts u (HA.out.step I0.below)).mono ?_
        rintro e u2 ⟨X2, c2, rfl, hv, dd⟩
        exact hK _ _ (key (.slice X2 ts.length c2) u2 (I0.fresh hs dd rfl rfl hv) dd _ (by simp [upd, e1]))
      · refine wpOp_plain rfl rfl (fun K' hK => ?_)
        go_simp
        exact hK _ _ (key _ _ (I0.quiet hs (Below.refl _ _) rfl (by rintro x ⟨⟩; rfl)) (Below.refl _ _) _ rfl)
      · refine wpOp_plain rfl rfl (fun K' hK => ?_)
        have e1 := I0.val (ready_dep hi (j := 3) (by kernel_rfl)) rfl
        have hx := (I0.below.cell (p := ⟨w.heap.size, 1, none⟩) (by simp; omega)).trans x1
        go_simp
        exact hK _ _ (key (.slice B vs.length d) _ (I0.quiet hs (Below.refl _ _) rfl (by rintro x ⟨⟩; rfl)) (Below.refl _ _) _ (by simp [upd, e1]))
      · refine wpOp_plain rfl rfl (fun K' hK => ?_)
        have e1 := I0.val (ready_dep hi (j := 4) (by kernel_rfl)) rfl
        rw [e1]
        go_simp
        go_at_call 34
        refine (clone_row B d vs hvs u (HB.out.step I0.below)).mono ?_
        rintro e u2 ⟨X2, c2, rfl, hv, dd⟩
        exact hK _ _ (key (.slice X2 vs.length c2) u2 (I0.fresh hs dd rfl rfl hv) dd _ (by simp [upd, e1]))
    · obtain rfl | rfl | rfl : i = 6 ∨ i = 7 ∨ i = 8 := by omega
      · refine wpOp_plain rfl rfl (fun K' hK => ?_)
        obtain ⟨X, cx, e3⟩ := (I0.own.row 2 ts (live_here (ready_dep hi (j := 2) (by kernel_rfl)) n9 rfl)).form
        obtain ⟨Y, cy, e7⟩ := (I0.own.row 5 vs (live_here (ready_dep hi (j := 5) (by kernel_rfl)) n9 rfl)).form
        rw [e3, e7]
        go_simp
        refine hK _ _ ⟨upd T 6 (.agg #[.slice X ts.length cx, .slice Y vs.length cy]), by simp [upd, e3, e7], fun _ => ⟨I0.quiet hs (Below.refl _ _) rfl (by rintro x ⟨⟩), fun _ => by simp [upd, e3, e7], fun h => ?_⟩, fun h => absurd h (by rw [getD_set hs, if_neg (by omega), n9]; decide)⟩
        rw [getD_set hs, if_neg (by omega)] at h
        obtain ⟨gb, k1, k2, k3⟩ := h7 h
        exact ⟨gb, by rw [upd_ne (by omega)]; exact k1, k2, k3⟩
      · refine wpOp_plain rfl rfl (fun K' hK => ?_)
        go_simp
        refine hK _ _ ⟨upd T 7 (.pointer (some ⟨u.heap.size, 0, none⟩)), rfl, fun _ => ⟨I0.quiet hs (below_alloc _ _) rfl (by rintro x ⟨⟩), fun h => ?_, fun h => ⟨_, rfl, Box.new _ _ _, I0.below.size⟩⟩, fun h => absurd h (by rw [getD_set hs, if_neg (by omega), n9]; decide)⟩
        rw [getD_set hs, if_neg (by omega)] at h
        exact h6 h
      · refine wpOp_plain rfl rfl (fun K' hK => ?_)
        have d6 := ready_dep hi (j := 6) (by kernel_rfl)
        have d7 := ready_dep hi (j := 7) (by kernel_rfl)
        have l2 := live_here (tab := exTab ts vs) (cons := exCons) (closed_reach hc 0 6 2 (by kernel_rfl) d6) n9 rfl
        have l5 := live_here (tab := exTab ts vs) (cons := exCons) (closed_reach hc 0 6 5 (by kernel_rfl) d6) n9 rfl
        have r3 := I0.own.row 2 ts l2
        have r7 := I0.own.row 5 vs l5
        have ap := I0.own.apart 2 5 ts vs (by decide) l2 l5
        obtain ⟨X, cx, e3⟩ := r3.form
        obtain ⟨Y, cy, e7⟩ := r7.form
        have e8 := h6 d6
        obtain ⟨gb, e9, hy, hgb⟩ := h7 d7
        rw [e3] at r3 e8 ap
        rw [e7] at r7 e8 ap
        have y0 := hy.cell 0
        have y1 := hy.cell 1
        have y2 := hy.frozen 0
        have y3 := hy.frozen 1
        simp only [List.getElem?_toArray, List.getElem?_cons_zero, List.getElem?_cons_succ] at y0 y1
        have s1 := hy.set 0 (.slice X ts.length cx)
        have s2 := s1.set 1 (.slice Y vs.length cy)
        go_simp
        refine hK _ _ ⟨T, by rw [e8, e9, e3, e7], fun h => absurd h (by rw [getD_set hs, if_pos rfl]; decide), fun _ => ⟨gb, X, cx, Y, cy, e9, ⟨s2, (r3.set hy (by decide)).set s1 (by decide), (r7.set hy (by decide)).set s1 (by decide), ap, hgb⟩, ?_⟩⟩
        exact Below.setCell (Below.setCell I0.below hgb _) hgb _
  · rintro listed a u hz hall ⟨T, rfl, h1, h2⟩
    obtain ⟨gb, X, cx, Y, cy, e9, hE, hbw2⟩ := h2 (hall 8 (by decide))
    have HE := Lib.hid hE
    have HBW := Lib.hid hbw2
    clear h1 h2 hE hbw2
    rw [e9]
    clear e9
    dsimp only
    obtain ⟨hAD, mb, n, vv, D, hMB, hM, hR, hL, hn, hmb, hgb⟩ := H0.out
    obtain ⟨V, cv, rfl⟩ := RowV.form (xs := ads) hR
    have b1 := (hMB.step HBW.out)
    have g0 := b1.cell 0
    have g1 := b1.cell 1
    simp only [List.getElem?_toArray, List.getElem?_cons_zero, List.getElem?_cons_succ] at g0 g1
    go_wp2
    have HR := Lib.hid hR
    have HMB := Lib.hid hMB
    have HM := Lib.hid hM
    have HL := Lib.hid hL
    have HAD := Lib.hid hAD
    have HMM := Lib.hid (And.intro hn (And.intro hmb hgb))
    have HS := Lib.hid hsz
    clear hR hMB hM hL hAD hn hmb hgb b1 g0 g1 x0 x1 X0 HA HB E0 hsz
    go_loopw [7, 20] (fun _ i wr => ∃ (k : Nat) (X : Option Addr) (cx : Nat) (Y : Option Addr) (cy : Nat), k ≤ ads.length ∧ i = .int .i64 k ∧ Hid (EBd wr w0.heap.size gb X cx Y cy (ts ++ ads.take k) (vs ++ (ads.take k).map (pval q))) ∧ Hid (Below w0.heap.size w0 wr)) (fun _ i _ => ads.length - (intOf i).toNat)
    case atStart => exact ⟨0, X, cx, Y, cy, by omega, rfl, Lib.hid (by simpa using HE.out), HBW⟩
    case round =>
      clear HE HBW X cx Y cy
      obtain ⟨k, X, cx, Y, cy, hk, rfl, hE, hB⟩ := hrel
      have b1 := HMB.out.step hB.out
      have hbx := hE.out.1
      have NS := hB.out.size
      by_cases hlt : k < ads.length
      · have hk0 : (0 : Int) ≤ (k : Int) := by omega
        have hk1 : (k : Int) < (ads.length : Int) := by omega
        obtain ⟨b, off, rfl, n1, e1⟩ := (ri_of_row (RowV.below (show RowV w0 base (.slice V ads.length cv) ads from HR.out) hB.out)).at_ hlt
        generalize hx : ads.getD k 0 = x at e1
        have HX := Lib.hid hx
        have hlx : (ts ++ ads.take k).length ≤ 2097152 := by rw [List.length_append, List.length_take]; omega
        have hly : (vs ++ (ads.take k).map (pval q)).length ≤ 2097152 := by rw [List.length_append, List.length_map, List.length_take]; omega
        generalize hxs : ts ++ ads.take k = xs at hE hbx hlx
        generalize hys : vs ++ (ads.take k).map (pval q) = ys at hE hbx hly
        have HXS := Lib.hid (And.intro hxs hys)
        clear hxs hys hx
        have g0 := b1.cell 0
        have q0 := hbx.cell 0
        have q1 := hbx.cell 1
        have q2 := hbx.frozen 0
        have q3 := hbx.frozen 1
        simp only [List.getElem?_toArray, List.getElem?_cons_zero, List.getElem?_cons_succ] at g0 q0 q1
        clear hbx
        obtain ⟨i0, hi, hz0, hz1, hz2⟩ := info_parts int_info
        obtain ⟨xs5, h5⟩ : ∃ l, l = xs ++ [x] := ⟨_, rfl⟩
        have H5 := Lib.hid h5
        clear h5
        have HI := Lib.hid (show RI (wr.alloc (.cells #[.int .i64 x] 3)) (some ⟨wr.heap.size, 0, none⟩) [x] from ri_one wr x)
        go_wp2_with (at_builtin; refine wpList_append_nums rfl _ _ 22 rfl w0.heap.size 3 i0 Try.underlying22 hi hz0 hz1 hz2 (.slice X xs.length cx) xs.length _ rfl (RowV.below hE.out.2.1 (below_alloc wr _)) _ _ (some ⟨wr.heap.size, 0, none⟩) 1 [x] rfl HI.out (by simp; omega) (by rw [al_size]; omega) ?_; intro v' w' hown hg hat
                     have hv' : RowV w' w0.heap.size v' xs5 := by rw [H5.out]; simpa [RowV] using hown
                     obtain ⟨X', c', rfl⟩ := hv'.form
                     have hp := hE.out.push1 (below_alloc wr _) hv' hg hat
                     have K1 := Lib.hid hp.1
                     have E5 := Lib.hid hp.2
                     have z0 := K1.out.cell 0
                     have z1 := K1.out.cell 1
                     have z2 := K1.out.frozen 0
                     have z3 := K1.out.frozen 1
                     simp only [List.getElem?_toArray, List.getElem?_cons_zero, List.getElem?_cons_succ] at z0 z1
                     have hb5 : Below w0.heap.size w0 (w'.setCell ⟨gb, 0, none⟩ (.slice X' xs5.length c')) := Below.setCell ((step hB.out (below_alloc wr _)).grown hg (by rw [al_size]; omega) (fun j hj => (World.ownsRow.lt hE.out.2.1 j hj).1)) hE.out.2.2.2.2 _
                     have B5 := Lib.hid hb5
                     clear hown hv' hg hat hp hb5)
        obtain ⟨w5, hw5⟩ : ∃ W, W = w'.setCell ⟨gb, 0, none⟩ (.slice X' xs5.length c') := ⟨_, rfl⟩
        have F5 := Lib.hid hw5
        rw [← hw5] at E5 B5 ⊢
        clear z0 z1 z2 z3 K1 hw5
        have WX := Lib.hid (HW.out x (by rw [← HX.out]; exact getD_mem ads hlt))
        obtain ⟨pv, hpv⟩ : ∃ pv, pv = pval q x := ⟨_, rfl⟩
        have PQ := Lib.hid hpv
        have PV := Lib.hid (show D.atKey (kt x) (.lit (.int .i64 0)) = .lit (.int .i64 pv) by rw [hpv]; exact (HL.out.2 x).2 (by rw [HAD.out.1, ← HX.out]; exact List.mem_append_right _ (getD_mem ads hlt)))
        obtain ⟨ys5, h6⟩ : ∃ l, l = ys ++ [pv] := ⟨_, rfl⟩
        have H6 := Lib.hid h6
        clear h6 hpv
        refine wp_region_inv rfl (by kernel_rfl) (fun listed a u => ∃ R : Nat → Value, a = (⟨#[Value.pointer (some ⟨g, 0, none⟩), Value.agg #[Value.slice A ts.length c, Value.slice B vs.length d], undef, Value.pointer (some ⟨w.heap.size, 0, none⟩), Value.pointer (some ⟨w.heap.size + 1, 0, none⟩), Value.pointer (some ⟨gb, 0, none⟩), undef, Value.int .i64 x, T 0, T 1, T 2, T 3, T 4, T 5, T 6, Value.pointer (some ⟨g, 0, none⟩), Value.pointer (some ⟨g, 0, none⟩), Value.pointer (some ⟨g, 1, none⟩), Value.slice (some ⟨b, off, none⟩) ads.length cv, Value.int .i64 (ads.length : Int), Value.int .i64 (k : Int), Value.bool true, Value.pointer (some ⟨b, off + k, none⟩), Value.int .i64 x, Value.pointer (some ⟨gb, 0, none⟩), Value.slice X xs.length cx, Value.int .i64 x, Value.slice (some ⟨wr.heap.size, 0, none⟩) 1 1, Value.slice X' xs5.length c', Value.pointer (some ⟨gb, 0, none⟩), R 0, R 1, R 2, R 3, R 4, R 5, R 6, R 7, R 8, R 9, R 10, u41, undef], []⟩ : Act) ∧
    (listed.getD 11 false = false → FV (x6Vals gb g (.slice Y ys.length cy) mb x pv) listed R ∧ (listed.getD 9 false = false → Below w5.heap.size w5 u ∧ (listed.getD 8 false = true → ∃ kb, R 8 = .slice (some ⟨kb, 0, none⟩) 1 1 ∧ RI u (some ⟨kb, 0, none⟩) [pv])) ∧
      (listed.getD 9 false = true → ∃ Y' d', R 9 = .slice Y' ys5.length d' ∧ Box u gb #[.slice X' xs5.length c', .slice Y ys.length cy] 32 ∧ EBd (u.setCell ⟨gb, 1, none⟩ (.slice Y' ys5.length d')) w0.heap.size gb X' c' Y' d' xs5 ys5 ∧ Below w0.heap.size w0 u)) ∧
    (listed.getD 11 false = true → ∃ Y' d', EBd u w0.heap.size gb X' c' Y' d' xs5 ys5 ∧ Below w0.heap.size w0 u)) ?_ ?_ ?_
        · refine ⟨fun k => #[u30, u31, u32, u33, u34, u35, u36, u37, u38, u39, u40].getD k undef, rfl, fun _ => ⟨FV.none _, fun _ => ⟨below_drew w5, fun h => ?_⟩, fun h => ?_⟩, fun h => ?_⟩ <;> exact absurd h (by decide)
        · rintro listed a u i hi hz hc ⟨R, rfl, h1, h2⟩
          have hlt : i < 12 := ready_lt hi
          have hs : i < listed.size := by rw [hz]; exact ready_lt hi
          have hn := ready_new hi hz
          have n11 : listed.getD 11 false = false := by
            obtain rfl | rfl | rfl | rfl | rfl | rfl | rfl | rfl | rfl | rfl | rfl | rfl : i = 0 ∨ i = 1 ∨ i = 2 ∨ i = 3 ∨ i = 4 ∨ i = 5 ∨ i = 6 ∨ i = 7 ∨ i = 8 ∨ i = 9 ∨ i = 10 ∨ i = 11 := by omega
            all_goals first | exact hn | exact not_yet hc hn 0 11 (by kernel_rfl)
          obtain ⟨hF, hA9, hB9⟩ := h1 n11
          clear h1 h2
          by_cases hlt9 : i < 9
          · have n9 : listed.getD 9 false = false := by
              obtain rfl | rfl | rfl | rfl | rfl | rfl | rfl | rfl | rfl : i = 0 ∨ i = 1 ∨ i = 2 ∨ i = 3 ∨ i = 4 ∨ i = 5 ∨ i = 6 ∨ i = 7 ∨ i = 8 := by omega
              all_goals exact not_yet hc hn 8 9 (by kernel_rfl)
            obtain ⟨hbu, h8⟩ := hA9 n9
            by_cases hlt8 : i < 8
            · have key : ∀ (v : Value), (∀ o, x6Vals gb g (.slice Y ys.length cy) mb x pv i = some o → v = o) → ∀ a', a' = (⟨#[Value.pointer (some ⟨g, 0, none⟩), Value.agg #[Value.slice A ts.length c, Value.slice B vs.length d], undef, Value.pointer (some ⟨w.heap.size, 0, none⟩), Value.pointer (some ⟨w.heap.size + 1, 0, none⟩), Value.pointer (some ⟨gb, 0, none⟩), undef, Value.int .i64 x, T 0, T 1, T 2, T 3, T 4, T 5, T 6, Value.pointer (some ⟨g, 0, none⟩), Value.pointer (some ⟨g, 0, none⟩), Value.pointer (some ⟨g, 1, none⟩), Value.slice (some ⟨b, off, none⟩) ads.length cv, Value.int .i64 (ads.length : Int), Value.int .i64 (k : Int), Value.bool true, Value.pointer (some ⟨b, off + k, none⟩), Value.int .i64 x, Value.pointer (some ⟨gb, 0, none⟩), Value.slice X xs.length cx, Value.int .i64 x, Value.slice (some ⟨wr.heap.size, 0, none⟩) 1 1, Value.slice X' xs5.length c', Value.pointer (some ⟨gb, 0, none⟩), upd R i v 0, upd R i v 1, upd R i v 2, upd R i v 3, upd R i v 4, upd R i v 5, upd R i v 6, upd R i v 7, upd R i v 8, upd R i v 9, upd R i v 10, u41, undef], []⟩ : Act) → _ :=
                fun v hv a' ha => (⟨upd R i v, ha, fun _ => ⟨hF.set hs hv, fun _ => ⟨hbu, fun h => by
                  rw [getD_set hs, if_neg (by omega)] at h
                  obtain ⟨kb, k1, k2⟩ := h8 h
                  exact ⟨kb, by rw [upd_ne (by omega)]; exact k1, k2⟩⟩, fun h => absurd h (by rw [getD_set hs, if_neg (by omega), n9]; decide)⟩, fun h => absurd h (by rw [getD_set hs, if_neg (by omega), n11]; decide)⟩ : (fun listed a u => ∃ R : Nat → Value, a = (⟨#[Value.pointer (some ⟨g, 0, none⟩), Value.agg #[Value.slice A ts.length c, Value.slice B vs.length d], undef, Value.pointer (some ⟨w.heap.size, 0, none⟩), Value.pointer (some ⟨w.heap.size + 1, 0, none⟩), Value.pointer (some ⟨gb, 0, none⟩), undef, Value.int .i64 x, T 0, T 1, T 2, T 3, T 4, T 5, T 6, Value.pointer (some ⟨g, 0, none⟩), Value.pointer (some ⟨g, 0, none⟩), Value.pointer (some ⟨g, 1, none⟩), Value.slice (some ⟨b, off, none⟩) ads.length cv, Value.int .i64 (ads.length : Int), Value.int .i64 (k : Int), Value.bool true, Value.pointer (some ⟨b, off + k, none⟩), Value.int .i64 x, Value.pointer (some ⟨gb, 0, none⟩), Value.slice X xs.length cx, Value.int .i64 x, Value.slice (some ⟨wr.heap.size, 0, none⟩) 1 1, Value.slice X' xs5.length c', Value.pointer (some ⟨gb, 0, none⟩), R 0, R 1, R 2, R 3, R 4, R 5, R 6, R 7, R 8, R 9, R 10, u41, undef], []⟩ : Act) ∧
    (listed.getD 11 false = false → FV (x6Vals gb g (.slice Y ys.length cy) mb x pv) listed R ∧ (listed.getD 9 false = false → Below w5.heap.size w5 u ∧ (listed.getD 8 false = true → ∃ kb, R 8 = .slice (some ⟨kb, 0, none⟩) 1 1 ∧ RI u (some ⟨kb, 0, none⟩) [pv])) ∧
      (listed.getD 9 false = true → ∃ Y' d', R 9 = .slice Y' ys5.length d' ∧ Box u gb #[.slice X' xs5.length c', .slice Y ys.length cy] 32 ∧ EBd (u.setCell ⟨gb, 1, none⟩ (.slice Y' ys5.length d')) w0.heap.size gb X' c' Y' d' xs5 ys5 ∧ Below w0.heap.size w0 u)) ∧
    (listed.getD 11 false = true → ∃ Y' d', EBd u w0.heap.size gb X' c' Y' d' xs5 ys5 ∧ Below w0.heap.size w0 u)) (listed.setIfInBounds i true) a' u)
              obtain rfl | rfl | rfl | rfl | rfl | rfl | rfl | rfl : i = 0 ∨ i = 1 ∨ i = 2 ∨ i = 3 ∨ i = 4 ∨ i = 5 ∨ i = 6 ∨ i = 7 := by omega
              · refine wpOp_plain rfl rfl (fun K' hK => ?_)
                go_simp
                exact hK _ _ (key _ (by rintro o ⟨⟩; rfl) _ rfl)
              · refine wpOp_plain rfl rfl (fun K' hK => ?_)
                have e1 := hF 0 _ rfl (ready_dep hi (j := 0) (by kernel_rfl))
                have hx := (E5.out.1.step hbu).cell 1
                simp only [List.getElem?_toArray, List.getElem?_cons_zero, List.getElem?_cons_succ] at hx
                go_simp
                exact hK _ _ (key (.slice Y ys.length cy) (by rintro o ⟨⟩; rfl) _ (by simp [upd, e1]))
              · refine wpOp_plain rfl rfl (fun K' hK => ?_)
                go_simp
                exact hK _ _ (key _ (by rintro o ⟨⟩; rfl) _ rfl)
              · refine wpOp_plain rfl rfl (fun K' hK => ?_)
                have e1 := hF 2 _ rfl (ready_dep hi (j := 2) (by kernel_rfl))
                rw [e1]
                go_simp
                exact hK _ _ (key (.pointer (some ⟨g, 0, none⟩)) (by rintro o ⟨⟩; rfl) _ (by simp [upd, e1]))
              · refine wpOp_plain rfl rfl (fun K' hK => ?_)
                have e1 := hF 3 _ rfl (ready_dep hi (j := 3) (by kernel_rfl))
                rw [e1]
                go_simp
                exact hK _ _ (key (.pointer (some ⟨g, 0, none⟩)) (by rintro o ⟨⟩; rfl) _ (by simp [upd, e1]))
              · refine wpOp_plain rfl rfl (fun K' hK => ?_)
                have e1 := hF 4 _ rfl (ready_dep hi (j := 4) (by kernel_rfl))
                have hx := ((HMB.out.step B5.out).step hbu).cell 0
                simp only [List.getElem?_toArray, List.getElem?_cons_zero, List.getElem?_cons_succ] at hx
                go_simp
                exact hK _ _ (key (.map (some mb)) (by rintro o ⟨⟩; rfl) _ (by simp [upd, e1]))
              · refine wpOp_plain rfl rfl (fun K' hK => ?_)
                go_simp
                exact hK _ _ (key _ (by rintro o ⟨⟩; rfl) _ rfl)
              · refine wpOp_plain rfl rfl (fun K' hK => ?_)
                have e5 := hF 5 _ rfl (ready_dep hi (j := 5) (by kernel_rfl))
                have e6 := hF 6 _ rfl (ready_dep hi (j := 6) (by kernel_rfl))
                obtain ⟨c0, hrun, hat, hwc⟩ := (ownsMap_trn HM.out (fun es ck e => (B5.out.trans (hbu.mono B5.out.size)).block mb (Array.getElem?_eq_some_iff.1 e).1)).lookup_int lawM Try.underlying58 Try.underlying3 (zeroM u) (keyOf_int_mk Try.underlying3 WX.out)
                rw [PV.out] at hat
                obtain rfl : pv = c0 := by injection hat with hat; injection hat
                unfold Oper.wp
                rw [e5, e6]
                simp [execOp, Act.eval, hrun, Result.andThen, Oper.upon]
                exact hK _ _ (key (.int .i64 pv) (by rintro o ⟨⟩; rfl) _ (by simp [upd, e5, e6, Act.put]))
            · obtain rfl : i = 8 := by omega
              refine wpOp_plain rfl rfl (fun K' hK => ?_)
              have e1 := hF 7 _ rfl (ready_dep hi (j := 7) (by kernel_rfl))
              rw [e1]
              go_simp
              refine hK _ _ ⟨upd R 8 (.slice (some ⟨u.heap.size, 0, none⟩) 1 1), by simp [upd, e1], fun _ => ⟨hF.set hs (by rintro o ⟨⟩), fun _ => ⟨step hbu (below_alloc _ _), fun _ => ⟨u.heap.size, rfl, ri_one u pv⟩⟩, fun h => absurd h (by rw [getD_set hs, if_neg (by omega), n9]; decide)⟩, fun h => absurd h (by rw [getD_set hs, if_neg (by omega), n11]; decide)⟩
          · obtain rfl | rfl | rfl : i = 9 ∨ i = 10 ∨ i = 11 := by omega
            · refine wpOp_plain rfl rfl (fun K' hK => ?_)
              obtain ⟨hbu, h8⟩ := hA9 hn
              obtain ⟨kb, e8, r8⟩ := h8 (ready_dep hi (j := 8) (by kernel_rfl))
              have e1 := hF 1 _ rfl (ready_dep hi (j := 1) (by kernel_rfl))
              refine opwp_append_row (.tmp 31) (.tmp 38) rfl w0.heap.size (.slice Y ys.length cy) ys e1 (RowV.below E5.out.2.2.1 hbu) (some ⟨kb, 0, none⟩) 1 [pv] e8 r8 (by simp; omega) (Nat.le_trans B5.out.size hbu.size) ?_
              intro v' w' r1 r2 r3
              have r1' : RowV w' w0.heap.size v' ys5 := by rw [H6.out]; exact r1
              obtain ⟨Y', d', rfl⟩ := r1'.form
              have hp := E5.out.push2 hbu r1' r2 r3
              refine hK _ _ ⟨upd R 9 (.slice Y' ys5.length d'), rfl, fun _ => ⟨hF.set hs (by rintro o ⟨⟩), fun h => absurd h (by rw [getD_set hs, if_pos rfl]; decide), fun _ => ⟨Y', d', rfl, hp.1, hp.2, ?_⟩⟩, fun h => absurd h (by rw [getD_set hs, if_neg (by omega), n11]; decide)⟩
              exact (B5.out.trans (hbu.mono B5.out.size)).grown r2 (Nat.le_trans B5.out.size hbu.size) (fun j hj => (World.ownsRow.lt E5.out.2.2.1 j hj).1)
            · refine wpOp_plain rfl rfl (fun K' hK => ?_)
              have d9 := ready_dep hi (j := 9) (by kernel_rfl)
              obtain ⟨Y', d', e9, hp⟩ := hB9 d9
              go_simp
              refine hK _ _ ⟨upd R 10 (.pointer (some ⟨gb, 1, none⟩)), by simp [upd, e9], fun _ => ⟨hF.set hs (by rintro o ⟨⟩; rfl), fun h => absurd h (by rw [getD_set hs, if_neg (by omega), d9]; decide), fun _ => ⟨Y', d', e9, hp⟩⟩, fun h => absurd h (by rw [getD_set hs, if_neg (by omega), n11]; decide)⟩
            · refine wpOp_plain rfl rfl (fun K' hK => ?_)
              have d9 := ready_dep hi (j := 9) (by kernel_rfl)
              obtain ⟨Y', d', e9, hp1, hp2, hp3⟩ := hB9 d9
              have e10 := hF 10 _ rfl (ready_dep hi (j := 10) (by kernel_rfl))
              have y1 := hp1.cell 1
              have y3 := hp1.frozen 1
              simp only [List.getElem?_toArray, List.getElem?_cons_zero, List.getElem?_cons_succ] at y1
              go_simp
              refine hK _ _ ⟨R, by rw [e9, e10], fun h => absurd h (by rw [getD_set hs, if_pos rfl]; decide), fun _ => ⟨Y', d', hp2, Below.setCell hp3 E5.out.2.2.2.2 _⟩⟩
        · rintro listed a u hz hall ⟨R, rfl, h1, h2⟩
          obtain ⟨Y', d', hE6, hB6⟩ := h2 (hall 11 (by decide))
          have E6 := Lib.hid hE6
          have B6 := Lib.hid hB6
          clear h1 h2 hE6 hB6 E5 B5
          dsimp only
          go_wp2
          go_round
          case rel =>
            refine ⟨k + 1, X', c', Y', d', by omega, by go_num, Lib.hid ?_, B6⟩
            have e := E6.out
            rwa [H5.out, H6.out, ← HXS.out.1, ← HXS.out.2, List.append_assoc, List.append_assoc, ← takeI' ads hlt HX.out, PQ.out, show [pval q x] = List.map (pval q) [x] from rfl, ← List.map_append, ← takeI' ads hlt HX.out] at e
          case measure => simp [intOf]; omega
      · obtain rfl : k = ads.length := by omega
        have hX9 := hE.out
        have aD := HAD.out
        rw [List.take_length, show ts ++ ads = q.1 from aD.1.symm, show vs ++ ads.map (pval q) = q.2 from aD.2.1.symm] at hX9
        have hy := Y0.out.step hB.out
        have HY9 := Lib.hid hy
        have q0 := hX9.1.cell 0
        have q1 := hX9.1.cell 1
        have y0 := hy.cell 0
        have y1 := hy.cell 1
        have y2 := hy.frozen 0
        have y3 := hy.frozen 1
        simp only [List.getElem?_toArray, List.getElem?_cons_zero, List.getElem?_cons_succ] at q0 q1 y0 y1
        have HX9 := Lib.hid hX9
        clear aD hX9 hy hE hbx b1
        go_wp2
        have s1 := HY9.out.set 0 (.slice X q.1.length cx)
        have z := s1.set 1 (.slice Y q.2.length cy)
        have z0 := z.cell 0
        have z1 := z.cell 1
        simp only [List.setIfInBounds_toArray, List.set_cons_zero, List.set_cons_succ, List.getElem?_toArray, List.getElem?_cons_zero, List.getElem?_cons_succ] at z0 z1
        refine bodyPost_ret (v := .agg #[.slice X q.1.length cx, .slice Y q.2.length cy]) (by simp [results, Try.results28, go_sem, z0, z1]) rfl ?_
        exact ⟨X, cx, Y, cy, rfl, ((HX9.out.2.1.set HY9.out (by decide)).set s1 (by decide)).mono B0.out.size, ((HX9.out.2.2.1.set HY9.out (by decide)).set s1 (by decide)).mono B0.out.size, HX9.out.2.2.2.1, Below.setCell (Below.setCell (B0.out.trans (hB.out.mono B0.out.size)) (by (try simp) <;> omega) _) (by (try simp) <;> omega) _⟩
end Go.Proofs.Ytigakhkhjjbboaa
