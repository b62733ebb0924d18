/- What the program's MatchAtom leaves. Conditions: none beyond each theorem's own. -/
import Derived.Test.YtigakhkhjjbboaaSpM
import Derived.Test.YtigakhkhjjbboaaExt
namespace Go.Proofs.Ytigakhkhjjbboaa
open Go.ChangeShapes Go.WideShapes Go.ChangeAt Go.RowKit Go.Sort
open Go.Maps (Keyed int_keyed keyOf_int_mk)
set_option linter.unusedVariables false
set_option linter.unusedSimpArgs false

theorem mst_mem {p q : PL} {t v x : Int} (h : mst p t v = some q) (hx : x ∈ q.1) : x ∈ p.1 ∨ x = t := by
  rcases mst_cases p t v with ⟨_, e⟩ | ⟨_, _, e⟩ | ⟨_, _, e⟩ <;> rw [e] at h
  · split at h
    · injection h with h; subst h; exact .inl hx
    · cases h
  · split at h
    · injection h with h; subst h; exact .inl hx
    · cases h
  · injection h with h
    subst h
    simpa using hx
theorem mgo_mem : ∀ (ts vs : List Int) (p q : PL), mgo p ts vs = some q → ∀ x ∈ q.1, x ∈ p.1 ∨ x ∈ ts
  | [], vs, p, q, h, x, hx => by rw [mgo_nil] at h; injection h with h; subst h; exact .inl hx
  | t :: ts, [], p, q, h, x, hx => by injection h with h; subst h; exact .inl hx
  | t :: ts, v :: vs, p, q, h, x, hx => by
    change (mst p t v).bind _ = _ at h
    cases hm : mst p t v with
    | none => rw [hm] at h; cases h
    | some r =>
      rw [hm] at h
      rcases mgo_mem ts vs r q h x hx with h1 | h1
      · rcases mst_mem hm h1 with h2 | h2
        · exact .inl h2
        · exact .inr (h2 ▸ List.mem_cons_self)
      · exact .inr (List.mem_cons_of_mem _ h1)

/-- What the program's MatchAtom answers. -/
def MatOwn (w : World) (r : Option PL) (e : Ending) (w' : World) : Prop :=
  ((r = none ∧ e = .returned (.tuple #[.agg #[.slice none 0 0, .slice none 0 0], .bool false])) ∨
   (∃ q X c Y d, r = some q ∧ e = .returned (.tuple #[.agg #[.slice X q.1.length c, .slice Y q.2.length d], .bool true]) ∧ RowV w' w.heap.size (.slice X q.1.length c) q.1 ∧ RowV w' w.heap.size (.slice Y q.2.length d) q.2 ∧ Apart (.slice X q.1.length c) (.slice Y q.2.length d))) ∧ Below w.heap.size w w' ∧ w.heap.size + 4 ≤ w'.heap.size

set_option maxRecDepth 100000 in
set_option maxHeartbeats 4000000 in
theorem impl_MatchAtom (A B T V : Option Addr) (c d tc vc : Nat) (r r' : Int) (us bs ts vs : List Int) (hl : us.length + ts.length ≤ 1048576) (hlb : bs.length ≤ 1048576) (hlv : vs.length ≤ 1048576)
    (wu : ∀ x ∈ us, wf x) (wb : ∀ x ∈ bs, wf x) (wt : ∀ x ∈ ts, wf x) (wv : ∀ x ∈ vs, wf x)
    (w : World) (hA : RI w A us) (hB : RI w B bs) (hT : RI w T ts) (hV : RI w V vs) :
    Calls Try.prog 11 #[.agg #[.slice A us.length c, .slice B bs.length d], .agg #[.int .i64 r, .slice T ts.length tc], .agg #[.int .i64 r', .slice V vs.length vc]] w (MatOwn w (matB (us, bs) r ts r' vs)) := by
  have hl1 : us.length ≤ 1048576 := by omega
  have hl2 : ts.length ≤ 1048576 := by omega
  have hl1' : (us.length : Int) ≤ 1048576 := by omega
  have hl2' : (ts.length : Int) ≤ 1048576 := by omega
  have hlb' : (bs.length : Int) ≤ 1048576 := by omega
  have hlv' : (vs.length : Int) ≤ 1048576 := by omega
  have WU := Lib.hid wu
  have WB := Lib.hid wb
  have WT := Lib.hid wt
  have WV := Lib.hid wv
  clear wu wb wt wv
  obtain ⟨w0, hw0⟩ : ∃ W, W = (((w.alloc (.cells #[.slice A us.length c, .slice B bs.length d] 32)).alloc (.cells #[.int .i64 r, .slice T ts.length tc] 36)).alloc (.cells #[.int .i64 r', .slice V vs.length vc] 38)).alloc (.cells #[.slice none 0 0, .slice none 0 0] 32) := ⟨_, rfl⟩
  have E0 := Lib.hid hw0
  have B0 := Lib.hid (show Below w.heap.size w w0 by rw [hw0]; exact step (step (step (below_alloc w _) (below_alloc _ _)) (below_alloc _ _)) (below_alloc _ _))
  have XB := Lib.hid (show Box w0 w.heap.size #[.slice A us.length c, .slice B bs.length d] 32 by rw [hw0]; exact (((Box.new w _ _).step (below_alloc _ _)).step (below_alloc _ _)).step (below_alloc _ _))
  have XA := Lib.hid (show Box w0 (w.heap.size + 1) #[.int .i64 r, .slice T ts.length tc] 36 by rw [hw0]; have h := ((Box.new (w.alloc (.cells #[.slice A us.length c, .slice B bs.length d] 32)) #[.int .i64 r, .slice T ts.length tc] 36).step (below_alloc _ (.cells #[.int .i64 r', .slice V vs.length vc] 38))).step (below_alloc _ (.cells #[.slice none 0 0, .slice none 0 0] 32)); simp only [al_size] at h; exact h)
  have XF := Lib.hid (show Box w0 (w.heap.size + 1 + 1) #[.int .i64 r', .slice V vs.length vc] 38 by rw [hw0]; have h := (Box.new ((w.alloc (.cells #[.slice A us.length c, .slice B bs.length d] 32)).alloc (.cells #[.int .i64 r, .slice T ts.length tc] 36)) #[.int .i64 r', .slice V vs.length vc] 38).step (below_alloc _ (.cells #[.slice none 0 0, .slice none 0 0] 32)); simp only [al_size] at h; exact h)
  have XR := Lib.hid (show Box w0 (w.heap.size + 1 + 1 + 1) #[.slice none 0 0, .slice none 0 0] 32 by rw [hw0]; have h := Box.new (((w.alloc (.cells #[.slice A us.length c, .slice B bs.length d] 32)).alloc (.cells #[.int .i64 r, .slice T ts.length tc] 36)).alloc (.cells #[.int .i64 r', .slice V vs.length vc] 38)) #[.slice none 0 0, .slice none 0 0] 32; simp only [al_size] at h; exact h)
  have hsz : w.heap.size + 4 = w0.heap.size := by rw [hw0, al_size, al_size, al_size, al_size]
  have HA := Lib.hid (hA.step B0.out)
  have HB := Lib.hid (hB.step B0.out)
  have HT := Lib.hid (hT.step B0.out)
  have HV := Lib.hid (hV.step B0.out)
  have x0 := XB.out.cell 0
  have x1 := XB.out.cell 1
  simp only [List.getElem?_toArray, List.getElem?_cons_zero, List.getElem?_cons_succ] at x0 x1
  clear hA hB hT hV hw0
  have f0 := XF.out.cell 0
  have f1 := XF.out.cell 1
  have a0 := XA.out.cell 0
  have a1 := XA.out.cell 1
  have r0 := (XR.out).cell 0
  have r1 := (XR.out).cell 1
  have r2 := (XR.out).frozen 0
  have r3 := (XR.out).frozen 1
  simp only [List.getElem?_toArray, List.getElem?_cons_zero, List.getElem?_cons_succ] at r0 r1 a0 a1 f0 f1
  by_cases hub : us.length = bs.length
  · have d2 : ((us.length : Int) != (bs.length : Int)) = false := by simp; omega
    have GE := Lib.hid (show matB (us, bs) r ts r' vs = matG (us, bs) r ts r' vs by
      unfold matB matG
      by_cases h : r = r' ∧ ts.length = vs.length
      · rw [if_pos h, if_pos ⟨h.1, h.2, hub⟩]
      · rw [if_neg h, if_neg (fun k => h ⟨k.1, k.2.1⟩)])
    have HU := Lib.hid hub
    clear hub
    go_enter Try.func11, Try.ntmps11
    go_upto_region 1 with fail
    rw [← E0.out]
    go_wp2_with fail
    refine (start_any A B c d us bs WU.out WB.out HU.out hl1 w0 HA.out HB.out).mono ?_
    rintro e w1 ⟨g, rfl, hms, hb1⟩
    have M1 := Lib.hid hms
    have B1 := Lib.hid hb1
    have T1 := Lib.hid (Ints.below HT.out hb1 (Nat.le_refl _))
    have V1 := Lib.hid (Ints.below HV.out hb1 (Nat.le_refl _))
    have sB1 := hb1.size
    clear hms hb1 a0 a1 f0 f1 r0 r1 r2 r3 x0 x1
    have a0 := (XA.out.step B1.out).cell 0
    have a1 := (XA.out.step B1.out).cell 1
    have f0 := (XF.out.step B1.out).cell 0
    have f1 := (XF.out.step B1.out).cell 1
    simp only [List.getElem?_toArray, List.getElem?_cons_zero, List.getElem?_cons_succ] at a0 a1 f0 f1
    go_wp2_with fail
    refine (match_any w0.heap.size g (us, bs) (us, bs) [] T V tc vc r r' ts vs WT.out WV.out (by show us.length + ts.length ≤ _; omega) hlv w1 B1.out.size T1.out V1.out M1.out).mono ?_
    rintro e w2 ⟨q2, ads, hr, hms, htr⟩
    have M2 := Lib.hid hms
    have hb2 : Below w0.heap.size w1 w2 := htr.below B1.out.size
    have B2 := Lib.hid (B1.out.trans hb2)
    have sB2 := hb2.size
    clear hms htr hb2 a0 a1 f0 f1
    rcases hr with ⟨hn, rfl⟩ | ⟨hn, rfl⟩
    · have HN := Lib.hid hn
      clear hn
      have r0 := (XR.out.step B2.out).cell 0
      have r1 := (XR.out.step B2.out).cell 1
      have r2 := (XR.out.step B2.out).frozen 0
      have r3 := (XR.out.step B2.out).frozen 1
      simp only [List.getElem?_toArray, List.getElem?_cons_zero, List.getElem?_cons_succ] at r0 r1
      go_wp2
      have z := ((XR.out.step B2.out).set 0 (.slice none 0 0)).set 1 (.slice none 0 0)
      have z0 := z.cell 0
      have z1 := z.cell 1
      simp only [List.setIfInBounds_toArray, List.set_cons_zero, List.set_cons_succ, List.getElem?_toArray, List.getElem?_cons_zero, List.getElem?_cons_succ] at z0 z1
      refine bodyPost_ret (v := .tuple #[.agg #[.slice none 0 0, .slice none 0 0], .bool false]) (by simp [results, Try.results11, go_sem, z0, z1]) rfl ?_
      exact ⟨.inl ⟨by rw [GE.out, HN.out], rfl⟩, Below.setCell (Below.setCell (B0.out.trans (B2.out.mono B0.out.size)) (by (try simp) <;> omega) _) (by (try simp) <;> omega) _, by rw [set_size, set_size]; omega⟩
    · have HN := Lib.hid hn
      have x0 := (XB.out.step B2.out).cell 0
      have x1 := (XB.out.step B2.out).cell 1
      simp only [List.getElem?_toArray, List.getElem?_cons_zero, List.getElem?_cons_succ] at x0 x1
      have hg : r = r' ∧ ts.length = vs.length := Classical.byContradiction fun h => by rw [matG_no h] at hn; cases hn
      have hm : mgo (us, bs) ts vs = some q2 := by rw [← hn]; exact (if_pos hg).symm
      have ql := mgo_len _ _ _ _ hm HU.out
      have al := M2.out.ad.lens
      dsimp only at ql al
      have hads : ads.length ≤ 1048576 := by omega
      have WQ := Lib.hid (show ∀ x ∈ ads, wf x from fun x hx => (mgo_mem ts vs (us, bs) q2 hm x (by rw [M2.out.ad.1]; exact List.mem_append_right _ hx)).elim (WU.out x) (WT.out x))
      clear hn hg hm ql al
      go_wp2_with fail
      refine (extend_any w0.heap.size g A B c d us bs q2 ads hl1 hlb hads WQ.out w2 B2.out.size (HA.out.step B2.out) (HB.out.step B2.out) M2.out).mono ?_
      rintro e w3 ⟨X, cx, Y, cy, rfl, hX, hY, hap, hb3⟩
      have sz := Nat.le_trans B0.out.size B2.out.size
      have sB3 := hb3.size
      have HP := Lib.hid hap
      have B3 := Lib.hid (step B2.out hb3)
      have HX := Lib.hid hX
      have HY := Lib.hid hY
      clear hX hY hb3 x0 x1 hap
      have r0 := (XR.out.step B3.out).cell 0
      have r1 := (XR.out.step B3.out).cell 1
      have r2 := (XR.out.step B3.out).frozen 0
      have r3 := (XR.out.step B3.out).frozen 1
      simp only [List.getElem?_toArray, List.getElem?_cons_zero, List.getElem?_cons_succ] at r0 r1
      go_wp2
      have s1 := (XR.out.step B3.out).set 0 (.slice X q2.1.length cx)
      have z := s1.set 1 (.slice Y q2.2.length cy)
      have z0 := z.cell 0
      have z1 := z.cell 1
      simp only [List.setIfInBounds_toArray, List.set_cons_zero, List.set_cons_succ, List.getElem?_toArray, List.getElem?_cons_zero, List.getElem?_cons_succ] at z0 z1
      refine bodyPost_ret (v := .tuple #[.agg #[.slice X q2.1.length cx, .slice Y q2.2.length cy], .bool true]) (by simp [results, Try.results11, go_sem, z0, z1]) rfl ?_
      exact ⟨.inr ⟨q2, X, cx, Y, cy, by rw [GE.out, HN.out], rfl, ((HX.out.set (XR.out.step B3.out) (by decide)).set s1 (by decide)).mono sz, ((HY.out.set (XR.out.step B3.out) (by decide)).set s1 (by decide)).mono sz, HP.out⟩, Below.setCell (Below.setCell (B0.out.trans (B3.out.mono B0.out.size)) (by (try simp) <;> omega) _) (by (try simp) <;> omega) _, by rw [set_size, set_size]; omega⟩
  · have d2 : ((us.length : Int) != (bs.length : Int)) = true := by simp; omega
    have GE := Lib.hid (show matB (us, bs) r ts r' vs = none from if_neg (fun k => hub k.2.2))
    clear hub
    go_enter Try.func11, Try.ntmps11
    go_upto_region 1 with fail
    rw [← E0.out]
    go_wp2
    have z := ((XR.out).set 0 (.slice none 0 0)).set 1 (.slice none 0 0)
    have z0 := z.cell 0
    have z1 := z.cell 1
    simp only [List.setIfInBounds_toArray, List.set_cons_zero, List.set_cons_succ, List.getElem?_toArray, List.getElem?_cons_zero, List.getElem?_cons_succ] at z0 z1
    refine bodyPost_ret (v := .tuple #[.agg #[.slice none 0 0, .slice none 0 0], .bool false]) (by simp [results, Try.results11, go_sem, z0, z1]) rfl ?_
    exact ⟨.inl ⟨GE.out, rfl⟩, Below.setCell (Below.setCell (B0.out) (by (try simp) <;> omega) _) (by (try simp) <;> omega) _, by rw [set_size, set_size]; omega⟩
end Go.Proofs.Ytigakhkhjjbboaa
