/- Whether the model's FindMapping finds one, on a few atoms and facts. Conditions: none beyond each theorem's own. bindingOf of a matching found from the head's values on says the head's values. Conditions: none beyond each theorem's own. The program's FindMapping of a lawful query whose head can have the tuple's values. Conditions: none beyond each theorem's own. The program's FindMapping where the head cannot have the tuple's values. Conditions: none beyond each theorem's own. Containment, purely: what the two searches for a mapping find. Conditions: none beyond each theorem's own. The model's l9Freeze: a query frozen apart from another one's constants. Conditions: none beyond each theorem's own. -/
import Derived.Test.YtimlpdcambmcjaaGreatS31
import Derived.Test.YtimlpdcambmcjaaGreatSFmI
import Derived.Test.YtimlpdcambmcjaaGreatS19
import Derived.Test.YtimlpdcambmcjaaGreatSBoI
import Derived.Test.YtimlpdcambmcjaaGreatS32
import Derived.Test.YtimlpdcambmcjaaGreatSL9c
import Derived.Test.YtimlpdcambmcjaaGreatSFrzS

namespace Go.Proofs.YtimlpdcambmcjaaGreat
open Go.ChangeShapes Go.WideShapes Go.ChangeAt Go.RowKit Go.Sort
set_option linter.unusedVariables false
set_option linter.unusedSimpArgs false

/-- Has one of the bindings this head? -/
def mapsB (hs tup : List Int) (ps : List PL) : Bool := decide (∃ p ∈ ps, headT hs p = tup)
theorem mapsB_yes {hs tup : List Int} {ps : List PL} {k : Nat} (hk : k < ps.length) {p : PL} (hp : ps.getD k noP = p) (h : headT hs p = tup) : mapsB hs tup ps = true := by
  refine decide_eq_true ⟨p, ?_, h⟩
  rw [← hp, List.getD_eq_getElem?_getD, List.getElem?_eq_getElem hk]
  exact List.getElem_mem _
theorem mapsB_no {hs tup : List Int} {ps : List PL} (h : ∀ j, j < ps.length → headT hs (ps.getD j noP) ≠ tup) : mapsB hs tup ps = false := by
  refine decide_eq_false ?_
  rintro ⟨p, hp, he⟩
  obtain ⟨j, hj, e⟩ := List.getElem_of_mem hp
  refine h j hj ?_
  rw [List.getD_eq_getElem?_getD, List.getElem?_eq_getElem hj, Option.getD_some, e]
  exact he

set_option maxRecDepth 100000 in
set_option maxHeartbeats 4000000 in
theorem spec_FindMapping (H Q F T : Option Addr) (ch c cf ct : Nat) (hs tup : List Int) (ats fs : FL) (hh : hs.length ≤ 1048576) (ht : tup.length ≤ 1048576)
    (ha : ats.length ≤ 4) (hat : ∀ a ∈ ats, a.2.length ≤ 1024) (hf : fs.length ≤ 24) (hfl : szF fs ≤ 1048576)
    (w : World) (hH : RI w H hs) (hQ : RF w Q ats) (hF : RF w F fs) (hT : RI w T tup) :
    Calls Tryz.prog 80 #[.agg #[.slice H hs.length ch, .slice Q ats.length c], .slice F fs.length cf, .slice T tup.length ct] w (FmO w (mapsB hs tup (bnds fs ats))) := by
  have hh' : (hs.length : Int) ≤ 1048576 := by omega
  have b1 := below_alloc w (.cells #[.slice H hs.length ch, .slice Q ats.length c] 29)
  have b2 := below_alloc (w.alloc (.cells #[.slice H hs.length ch, .slice Q ats.length c] 29)) (.cells #[.slice none 0 0, .slice none 0 0] 100)
  have B0 := Lib.hid (step b1 b2)
  have X0 := Lib.hid ((Box.new w #[.slice H hs.length ch, .slice Q ats.length c] 29).step b2)
  have R0 := Lib.hid (show Box ((w.alloc (.cells #[.slice H hs.length ch, .slice Q ats.length c] 29)).alloc (.cells #[.slice none 0 0, .slice none 0 0] 100)) (w.heap.size + 1) #[.slice none 0 0, .slice none 0 0] 100 by
    have h := Box.new (w.alloc (.cells #[.slice H hs.length ch, .slice Q ats.length c] 29)) #[.slice none 0 0, .slice none 0 0] 100
    rwa [al_size] at h)
  have XB := Lib.hid (spec_BindingsOf H Q ch c hs ats F cf fs ha hat hf hfl _ (hQ.step B0.out) (hF.step B0.out))
  have HH := Lib.hid hH
  have HT := Lib.hid hT
  have HQ := Lib.hid hQ
  have hlen := bnds_few fs ats hf ha
  have LB := Lib.hid (show ∀ p ∈ bnds fs ats, p.1.length ≤ 1048576 ∧ p.2.length ≤ 1048576 from fun p hp => by
    have h := bndsF_elem fs 1024 ats hat [noP] 0 (fun p hp => by
      have : p = noP := by simpa using hp
      subst this
      exact ⟨rfl, Nat.le_refl _⟩) p hp
    omega)
  clear b1 b2 hH hQ hF hT hat
  generalize bnds fs ats = ps at XB LB hlen ⊢
  go_enter Tryz.func80, Tryz.ntmps80
  go_wp2_with fail
  refine XB.out.mono ?_
  rintro e u1 ⟨A, ca, rfl, hC, d1⟩
  have B1 := Lib.hid (step B0.out d1)
  have X1 := Lib.hid (X0.out.step d1)
  have R1 := Lib.hid (R0.out.step d1)
  have C1 := Lib.hid hC
  clear hC d1
  go_wp2
  go_loopw [9] (fun i wr => ∃ k : Nat, k ≤ ps.length ∧ i = .int .i64 k ∧ Hid (∀ j, j < k → headT hs (ps.getD j noP) ≠ tup) ∧ Hid (Below u1.heap.size u1 wr)) (fun i _ => ps.length - (intOf i).toNat)
  case atStart => exact ⟨0, by omega, rfl, Lib.hid (fun j hj => by omega), Lib.hid (Below.refl _ _)⟩
  case round =>
    obtain ⟨k, hk, rfl, hN, hb⟩ := hrel
    have hk0 : (0 : Int) ≤ (k : Int) := by omega
    have X2 := Lib.hid (X1.out.step hb.out)
    have R2 := Lib.hid (R1.out.step hb.out)
    have B2 := Lib.hid (step B1.out hb.out)
    by_cases hlt : k < ps.length
    · have hk1 : (k : Int) < (ps.length : Int) := by omega
      generalize hp0 : ps.getD k noP = p
      obtain ⟨us, vs⟩ := p
      have HP := Lib.hid hp0
      have hpm : us.length ≤ 1048576 ∧ vs.length ≤ 1048576 := by
        have := LB.out (us, vs) (by rw [← hp0, List.getD_eq_getElem?_getD, List.getElem?_eq_getElem hlt]; exact List.getElem_mem _)
        exact this
      obtain ⟨hpm1, hpm2⟩ := hpm
      obtain ⟨gB, U, cu, V, cv, rfl, ngB, c0, c1, rw1, rw2⟩ := (C1.out.step hb.out).at_ hlt HP.out
      have XT := Lib.hid fun (W : World) (hW : Below wr.heap.size wr W) => spec_TupleOf H Q U V ch c cu cv hs ats us vs hh hpm1 hpm2 W (HH.out.step (step B2.out hW)) (rw1.ri.step hW) (rw2.ri.step hW)
      have XC := Lib.hid fun (W : World) (hW : Below wr.heap.size wr W) => l4Copy_any U V cu cv us vs hpm1 hpm2 W (rw1.ri.step hW) (rw2.ri.step hW)
      have HT2 := Lib.hid (HT.out.step B2.out)
      have x0 := X2.out.cell 0
      have x1 := X2.out.cell 1
      simp only [List.getElem?_toArray, List.getElem?_cons_zero, List.getElem?_cons_succ] at x0 x1
      have xl := X2.out.lt
      have rl := R2.out.lt
      have K0 := Lib.hid c0
      have K1 := Lib.hid c1
      clear hp0 rw1 rw2
      by_cases hm : tupV us vs hs = tup
      · have HM := Lib.hid hm
        have EH := Lib.hid (mapsB_yes (hs := hs) (tup := tup) hlt HP.out hm)
        clear hm
        go_wp2_with fail
        go_region_held3 (fun w' => w'.cell? ⟨w.heap.size, 0, none⟩ = some (.slice H hs.length ch) ∧ w'.cell? ⟨w.heap.size, 1, none⟩ = some (.slice Q ats.length c) ∧ w'.cell? ⟨gB, k * 2, none⟩ = some (.slice U us.length cu) ∧ w'.cell? ⟨gB, k * 2 + 1, none⟩ = some (.slice V vs.length cv))
          (first
            | go_keep
            | (go_split_ands; refine ⟨?_, ?_, ?_, ?_⟩ <;> (rw [d2.cell (by (try simp) <;> omega)]; assumption))
            | (go_split_ands; refine ⟨?_, ?_, ?_, ?_⟩ <;> (rw [d3.cell (by (try simp) <;> omega)]; assumption)))
          (first
            | (go_at_call 81
               refine (XT.out _ (by first | exact Below.refl _ _ | exact below_drew _)).mono ?_
               rintro e u2 ⟨v2, rfl, o2, d2⟩
               obtain ⟨A2, c2, rfl⟩ := ownsRow_form o2
               have bb2 := (by first | exact d2 | exact und d2 | exact undN d2 : Below wr.heap.size wr u2)
               have RT2 := Lib.hid (show RI u2 A2 (tupV us vs hs) from (ints_own o2 (Nat.le_refl _)).mono (Nat.zero_le _) (Nat.le_refl _))
               have s2 := bb2.size
               have D2 := Lib.hid bb2
               clear o2 bb2)
            | (go_at_call 99
               refine (l2Ints_any 0 _ 0 _ A2 T c2 ct (tupV us vs hs) tup (by rw [tupV_len]; omega) (by omega) _ (by first | exact RT2.out | exact RT2.out.step (below_drew _)) (by first | exact HT2.out.step D2.out | exact (HT2.out.step D2.out).step (below_drew _))).mono ?_
               rintro e u3 ⟨he, d3⟩
               rw [decide_eq_true HM.out] at he
               subst he
               have D3 := Lib.hid (step D2.out (by first | exact d3 | exact und d3 | exact undN d3 : Below u2.heap.size u2 u3))
               have s3 := D3.out.size))
        have R3 := Lib.hid (R2.out.step D3.out)
        have q0 := (D3.out.cell (p := ⟨gB, k * 2, none⟩) (by (try simp) <;> omega)).trans K0.out
        have q1 := (D3.out.cell (p := ⟨gB, k * 2 + 1, none⟩) (by (try simp) <;> omega)).trans K1.out
        clear d2 d3 x0 x1 c0 c1 RT2
        go_wp2_with fail
        refine (XC.out _ D3.out).mono ?_
        rintro e u4 ⟨X5, c5, Y5, d5, rfl, _, _, d4⟩
        have R4 := Lib.hid (R3.out.step d4)
        have B4 := Lib.hid (step B2.out (step D3.out d4))
        have r0 := R4.out.cell 0
        have r1 := R4.out.cell 1
        have r2 := R4.out.frozen 0
        have r3 := R4.out.frozen 1
        have rl4 := R4.out.lt
        simp only [List.getElem?_toArray, List.getElem?_cons_zero, List.getElem?_cons_succ] at r0 r1
        clear d4 q0 q1
        go_wp2
        refine bodyPost_ret (v := .tuple #[.agg #[.slice X5 us.length c5, .slice Y5 vs.length d5], .bool true]) (by simp [results, Tryz.results80, go_sem, r0, r1, r2, r3, rl4]) rfl ?_
        rw [EH.out]
        exact ⟨_, _, _, _, _, _, rfl, Below.setCell (Below.setCell B4.out (by (try simp) <;> omega) _) (by (try simp) <;> omega) _⟩
      · have HM := Lib.hid hm
        have NN := Lib.hid (show ∀ j, j < k + 1 → headT hs (ps.getD j noP) ≠ tup from fun j hj => by
          by_cases e : j = k
          · rw [e, HP.out]; exact hm
          · exact hN.out j (by omega))
        clear hm
        go_wp2_with fail
        go_region_held3 (fun w' => w'.cell? ⟨w.heap.size, 0, none⟩ = some (.slice H hs.length ch) ∧ w'.cell? ⟨w.heap.size, 1, none⟩ = some (.slice Q ats.length c) ∧ w'.cell? ⟨gB, k * 2, none⟩ = some (.slice U us.length cu) ∧ w'.cell? ⟨gB, k * 2 + 1, none⟩ = some (.slice V vs.length cv))
          (first
            | go_keep
            | (go_split_ands; refine ⟨?_, ?_, ?_, ?_⟩ <;> (rw [d2.cell (by (try simp) <;> omega)]; assumption))
            | (go_split_ands; refine ⟨?_, ?_, ?_, ?_⟩ <;> (rw [d3.cell (by (try simp) <;> omega)]; assumption)))
          (first
            | (go_at_call 81
               refine (XT.out _ (by first | exact Below.refl _ _ | exact below_drew _)).mono ?_
               rintro e u2 ⟨v2, rfl, o2, d2⟩
               obtain ⟨A2, c2, rfl⟩ := ownsRow_form o2
               have bb2 := (by first | exact d2 | exact und d2 | exact undN d2 : Below wr.heap.size wr u2)
               have RT2 := Lib.hid (show RI u2 A2 (tupV us vs hs) from (ints_own o2 (Nat.le_refl _)).mono (Nat.zero_le _) (Nat.le_refl _))
               have s2 := bb2.size
               have D2 := Lib.hid bb2
               clear o2 bb2)
            | (go_at_call 99
               refine (l2Ints_any 0 _ 0 _ A2 T c2 ct (tupV us vs hs) tup (by rw [tupV_len]; omega) (by omega) _ (by first | exact RT2.out | exact RT2.out.step (below_drew _)) (by first | exact HT2.out.step D2.out | exact (HT2.out.step D2.out).step (below_drew _))).mono ?_
               rintro e u3 ⟨he, d3⟩
               rw [decide_eq_false HM.out] at he
               subst he
               have D3 := Lib.hid (step D2.out (by first | exact d3 | exact und d3 | exact undN d3 : Below u2.heap.size u2 u3))
               have s3 := D3.out.size))
        have D4 := Lib.hid (step hb.out D3.out)
        clear d2 d3 x0 x1 c0 c1 RT2
        go_wp2
        go_roundw
        case rel => exact ⟨k + 1, by omega, by go_num, NN, by first | exact D4 | exact Lib.hid D4.out.drew⟩
        case measure => simp [intOf]; omega
    · obtain rfl : k = ps.length := by omega
      have EH := Lib.hid (mapsB_no hN.out)
      have r0 := R2.out.cell 0
      have r1 := R2.out.cell 1
      have r2 := R2.out.frozen 0
      have r3 := R2.out.frozen 1
      have rl := R2.out.lt
      simp only [List.getElem?_toArray, List.getElem?_cons_zero, List.getElem?_cons_succ] at r0 r1
      go_wp2
      refine bodyPost_ret (v := .tuple #[.agg #[.slice none 0 0, .slice none 0 0], .bool false]) (by simp [results, Tryz.results80, go_sem, r0, r1, r2, r3, rl]) rfl ?_
      rw [EH.out]
      exact ⟨_, _, _, _, _, _, rfl, Below.setCell (Below.setCell B2.out (by (try simp) <;> omega) _) (by (try simp) <;> omega) _⟩
end Go.Proofs.YtimlpdcambmcjaaGreat

namespace Go.Proofs.YtimlpdcambmcjaaGreat
open Go.ChangeShapes Go.WideShapes Go.ChangeAt Go.RowKit Go.Sort
set_option linter.unusedVariables false
set_option linter.unusedSimpArgs false

theorem sumN_three : ∀ l : FL, (∀ a ∈ l, a.2.length ≤ 3) → sumN l ≤ 3 * l.length
  | [], _ => by simp [sumN]
  | a :: l, h => by
    have h1 := sumN_three l fun b hb => h b (List.mem_cons_of_mem _ hb)
    have h2 := h a (List.mem_cons_self ..)
    simp only [sumN, List.map_cons, List.sum_cons, List.length_cons] at *
    omega
theorem terms_sum (l : FL) : (terms l).length = sumN l := by simp [terms, sumN, List.length_flatMap]
theorem dd_val {ts vs : List Int} (hv : ∀ t ∈ ts, inB t 10 17 = true) (hl : ts.length = vs.length) : ∀ k, k ≤ ts.length → ∀ t ∈ (ddN ts vs k).1, pval (ddN ts vs k) t = bval ts vs t
  | 0, _, t, h => by cases h
  | k + 1, hk, t, h => by
    have ih := dd_val hv hl k (by omega)
    have hle := ddN_eq ts vs k
    have hm : ts.getD k 0 ∈ ts := by
      rw [List.getD_eq_getElem?_getD, List.getElem?_eq_getElem (by omega)]
      exact List.getElem_mem _
    by_cases hc : ts.getD k 0 ∈ (ddN ts vs k).1
    · rw [ddN_skip rfl hc] at h ⊢
      exact ih t h
    · rw [ddN_add rfl rfl hc] at h ⊢
      by_cases ht : t ∈ (ddN ts vs k).1
      · rw [pval_old hle ht]; exact ih t ht
      · have e : t = ts.getD k 0 := by
          rcases List.mem_append.1 h with h1 | h1
          · exact absurd h1 ht
          · simpa using h1
        subst e
        rw [pval_new hle hc]
        refine (bval_at (hv _ hm) (by omega) (by omega) (fun hin => hc ?_) rfl).symm
        obtain ⟨j, hj, e⟩ := List.getElem_of_mem hin
        rw [List.length_take] at hj
        have h3 := ddN_hasK ts vs k (by omega) j (by omega)
        rw [List.getElem_take] at e
        rw [List.getD_eq_getElem?_getD, List.getElem?_eq_getElem (by omega), Option.getD_some, e] at h3
        exact h3
theorem bval_map {us : List Int} {f : Int → Int} {t : Int} (hb : inB t 10 17 = true) (hm : t ∈ us) : bval us (us.map f) t = f t := by
  have hi := List.idxOf_lt_length_iff.2 hm
  rw [show bval us (us.map f) t = pval (us, us.map f) t from bval_mem (p := (us, us.map f)) (by simp) hb hm]
  unfold pval
  simp [List.getD_eq_getElem?_getD, hi]

theorem boc_any (H Q : Option Addr) (ch c : Nat) {hs tup : List Int} {ats fs : FL} (hq : QOk hs ats) (hl : hs.length = tup.length) (hc : tupV hs tup hs = tup) : BoC H Q ch c hs tup ats fs (ddN hs tup hs.length) := by
  intro W base g q hb hM hqe hQ
  have hn := sumN_three ats hq.short
  have hf := hq.few
  have hwf : ∀ x ∈ terms ats, 0 ≤ x ∧ x ≤ 17 := by
    intro x hx
    obtain ⟨a, ha, hxa⟩ := List.mem_flatMap.1 hx
    exact allB_mem (hq.term a ha) hxa
  have hp := enum_pre fs ats _ q hqe
  have hv : ∀ x ∈ terms ats, inB x 10 17 = true → x ∈ q.1 := by
    intro x hx hi
    obtain ⟨a, ha, hxa⟩ := List.mem_flatMap.1 hx
    exact hp.2 a ha x hxa hi
  refine (bindingOf_any base g H Q ch c hs ats q (adq (ddN hs tup hs.length) q) (ddN hs tup hs.length) (by unfold szF; omega) (by rw [terms_sum]; omega) (fun x hx => ?_) hv W hb hQ hM).mono ?_
  · have := hwf x hx
    exact WalkArith.wf_i64 ⟨by omega, by omega⟩
  · rintro e w' ⟨X, cx, Y, cy, he, h1, h2, h3⟩
    have hd := dv_len (terms ats)
    have ht := terms_sum ats
    refine ⟨X, Y, cx, cy, _, _, he, h1, h2, by omega, by rw [List.length_map]; omega, ?_, h3⟩
    refine Eq.trans ?_ hc
    refine List.map_congr_left fun t h => ?_
    have hv' := hq.var t h
    have hin : t ∈ dv (terms ats) := by
      obtain ⟨a, ha, hta⟩ := hv'.2
      exact (dv_mem _ _).2 ⟨List.mem_flatMap.2 ⟨a, ha, hta⟩, hv'.1⟩
    rw [bval_map hv'.1 hin, pre_val hp.1 (ddN_eq hs tup _) (ddN_all hs tup t h)]
    exact dd_val (fun t h => (hq.var t h).1) hl _ (Nat.le_refl _) t (ddN_all hs tup t h)
end Go.Proofs.YtimlpdcambmcjaaGreat

namespace Go.Proofs.YtimlpdcambmcjaaGreat
open Go.ChangeShapes Go.WideShapes Go.ChangeAt Go.RowKit Go.Sort
set_option linter.unusedVariables false

theorem impl_FindMapping_con (H Q F T : Option Addr) (ch c cf ct : Nat) (hs tup : List Int) (ats fs : FL) (hq : QOk hs ats) (hf24 : fs.length ≤ 24) (hfd : ∀ f ∈ fs, allB 0 9 f.2 = true ∧ f.2.length ≤ 3) (hd : allB 0 9 tup = true) (hl : hs.length = tup.length)
    (hc : tupV hs tup hs = tup) (w : World) (hH : RI w H hs) (hQ : RF w Q ats) (hF : RF w F fs) (hT : RI w T tup) :
    Calls Tryz.prog 93 #[.agg #[.slice H hs.length ch, .slice Q ats.length c], .slice F fs.length cf, .slice T tup.length ct] w (FmO w (decide (enum fs ats (ddN hs tup hs.length) ≠ []))) :=
  impl_FindMapping_yes H Q F T ch c cf ct hs tup ats fs hq hf24 hfd hd hl hc (boc_any H Q ch c hq hl hc)
    (ddN_gd (allB_of fun x hx => by
      have := (hq.var x hx).1
      simp only [inB, Bool.and_eq_true, decide_eq_true_eq] at this
      exact this) hd hl _ (Nat.le_refl _))
    ⟨fun x hx => by
      have := (hq.var x hx).1
      simp only [inB, Bool.and_eq_true, decide_eq_true_eq] at this
      exact WalkArith.wf_i64 ⟨by omega, by omega⟩, fun x hx => by
      have := allB_mem hd hx
      exact WalkArith.wf_i64 ⟨by omega, by omega⟩⟩ w hH hQ hF hT
end Go.Proofs.YtimlpdcambmcjaaGreat

namespace Go.Proofs.YtimlpdcambmcjaaGreat
open Go.ChangeShapes Go.WideShapes Go.ChangeAt Go.RowKit Go.Sort
set_option linter.unusedVariables false
set_option linter.unusedSimpArgs false
attribute [local go_sem] Oper.semAt_some

set_option maxRecDepth 100000 in
set_option maxHeartbeats 4000000 in
theorem impl_FindMapping_no (H Q F T : Option Addr) (ch c cf ct : Nat) (hs tup : List Int) (ats fs : FL) (hq : QOk hs ats) (hf24 : fs.length ≤ 24) (hfd : ∀ f ∈ fs, allB 0 9 f.2 = true ∧ f.2.length ≤ 3) (hd : allB 0 9 tup = true) (hl : hs.length = tup.length)
    (hc : tupV hs tup hs ≠ tup)
    (w : World) (hH : RI w H hs) (hQ : RF w Q ats) (hF : RF w F fs) (hT : RI w T tup) :
    Calls Tryz.prog 93 #[.agg #[.slice H hs.length ch, .slice Q ats.length c], .slice F fs.length cf, .slice T tup.length ct] w (FmO w false) := by
  have hh3 := hq.head
  have ht3 : tup.length ≤ 3 := by omega
  obtain ⟨w0, hw0⟩ : ∃ W, W = (((w.alloc (.cells #[.slice H hs.length ch, .slice Q ats.length c] 29)).alloc (.cells #[.slice T tup.length ct] 22)).alloc (.cells #[.slice none 0 0, .slice none 0 0] 100)).alloc (.cells #[.bool false] 4) := ⟨_, rfl⟩
  have b1 := below_alloc w (.cells #[.slice H hs.length ch, .slice Q ats.length c] 29)
  have b2 := below_alloc (w.alloc (.cells #[.slice H hs.length ch, .slice Q ats.length c] 29)) (.cells #[.slice T tup.length ct] 22)
  have b3 := below_alloc ((w.alloc (.cells #[.slice H hs.length ch, .slice Q ats.length c] 29)).alloc (.cells #[.slice T tup.length ct] 22)) (.cells #[.slice none 0 0, .slice none 0 0] 100)
  have b4 := below_alloc (((w.alloc (.cells #[.slice H hs.length ch, .slice Q ats.length c] 29)).alloc (.cells #[.slice T tup.length ct] 22)).alloc (.cells #[.slice none 0 0, .slice none 0 0] 100)) (.cells #[.bool false] 4)
  have X0 : Box w0 w.heap.size #[.slice H hs.length ch, .slice Q ats.length c] 29 := by rw [hw0]; exact (((Box.new w _ _).step b2).step b3).step b4
  have T0 : Box w0 (w.heap.size + 1) #[.slice T tup.length ct] 22 := by
    have := Box.new (w.alloc (.cells #[.slice H hs.length ch, .slice Q ats.length c] 29)) #[.slice T tup.length ct] 22
    rw [al_size] at this
    rw [hw0]; exact (this.step b3).step b4
  have R0 : Box w0 (w.heap.size + 1 + 1) #[.slice none 0 0, .slice none 0 0] 100 := by
    have := Box.new ((w.alloc (.cells #[.slice H hs.length ch, .slice Q ats.length c] 29)).alloc (.cells #[.slice T tup.length ct] 22)) #[.slice none 0 0, .slice none 0 0] 100
    rw [al_size, al_size] at this
    rw [hw0]; exact this.step b4
  have O0 : Box w0 (w.heap.size + 1 + 1 + 1) #[.bool false] 4 := by
    have := Box.new (((w.alloc (.cells #[.slice H hs.length ch, .slice Q ats.length c] 29)).alloc (.cells #[.slice T tup.length ct] 22)).alloc (.cells #[.slice none 0 0, .slice none 0 0] 100)) #[.bool false] 4
    rw [al_size, al_size, al_size] at this
    rw [hw0]; exact this
  have S0 : w0.heap.size = w.heap.size + 1 + 1 + 1 + 1 := by rw [hw0, al_size, al_size, al_size, al_size]
  have BB : Below w.heap.size w w0 := by rw [hw0]; exact step (step (step b1 b2) b3) b4
  have E0 := Lib.hid hw0
  clear b1 b2 b3 b4 hw0
  have b5 := below_alloc w0 (.cells #[.slice H hs.length ch, .slice T tup.length ct] 100)
  have K1 := Box.new w0 #[.slice H hs.length ch, .slice T tup.length ct] 100
  obtain ⟨w1, hw1⟩ : ∃ W, W = w0.alloc (.cells #[.slice H hs.length ch, .slice T tup.length ct] 100) := ⟨_, rfl⟩
  have E1 := Lib.hid hw1
  have S1 : w1.heap.size = w0.heap.size + 1 := by rw [hw1, al_size]
  rw [← hw1] at b5 K1
  rw [S0] at K1
  have X1 := Lib.hid (X0.step b5)
  have T1 := Lib.hid (T0.step b5)
  have R1 := Lib.hid (R0.step b5)
  have O1 := Lib.hid (O0.step b5)
  have KB := Lib.hid K1
  have B1 := Lib.hid (step BB b5)
  have HH := Lib.hid hH
  have HQ := Lib.hid hQ
  have HF := Lib.hid hF
  have HT := Lib.hid hT
  have QO := Lib.hid hq
  have FD := Lib.hid hfd
  have HC := Lib.hid hc
  have HL := Lib.hid hl
  have XT := Lib.hid fun (W : World) (hW : Below w1.heap.size w1 W) => impl_TupleOf H Q H T ch c ch ct hs ats hs tup (by omega) (by omega) (by omega) W (hH.step (step B1.out hW)) (hH.step (step B1.out hW)) (hT.step (step B1.out hW))
  have x00 := X0.cell 0
  have t00 := T0.cell 0
  have x0 := X1.out.cell 0
  have x1 := X1.out.cell 1
  have t0 := T1.out.cell 0
  have k0 := KB.out.cell 0
  have k1 := KB.out.cell 1
  simp only [List.getElem?_toArray, List.getElem?_cons_zero, List.getElem?_cons_succ] at x00 t00 x0 x1 t0 k0 k1
  have xl1 := X1.out.lt
  have tl1 := T1.out.lt
  have kl1 := KB.out.lt
  have S0a : w.heap.size + 4 ≤ w0.heap.size := by omega
  have S0b : w0.heap.size ≤ w.heap.size + 4 := by omega
  have S1a : w0.heap.size + 1 ≤ w1.heap.size := by omega
  have S1b : w1.heap.size ≤ w0.heap.size + 1 := by omega
  clear S0 S1
  clear hH hQ hF hT hq hfd hc X0 T0 R0 O0 K1 b5 BB hw1 hl
  refine (callsIn_wide (n := 4)).1 ?_
  refine callsIn_of_wp_marks Tryz.func93 rfl trivial ?_ rfl
  simp only [Tryz.ntmps93, List.size_toArray, List.length_cons, List.length_nil, Nat.reduceAdd, Nat.reduceSub, Array.replicate_succ, Array.replicate_zero, List.push_toArray, List.append_toArray, List.nil_append, List.cons_append]
  refine wpIn_wide.2 ?_
  go_upto_region 2 with fail
  rw [← E0.out, ← E1.out]
  go_region_held3 (fun w' => w'.cell? ⟨w.heap.size, 0, none⟩ = some (.slice H hs.length ch) ∧ w'.cell? ⟨w.heap.size, 1, none⟩ = some (.slice Q ats.length c) ∧ w'.cell? ⟨w.heap.size + 1, 0, none⟩ = some (.slice T tup.length ct) ∧ w'.cell? ⟨w.heap.size + 1 + 1 + 1 + 1, 0, none⟩ = some (.slice H hs.length ch) ∧ w'.cell? ⟨w.heap.size + 1 + 1 + 1 + 1, 1, none⟩ = some (.slice T tup.length ct))
    (first
      | go_keep
      | (go_split_ands; refine ⟨?_, ?_, ?_, ?_, ?_⟩ <;> (rw [d2.cell (by (try simp) <;> omega)]; assumption))
      | (go_split_ands; refine ⟨?_, ?_, ?_, ?_, ?_⟩ <;> (rw [d3.cell (by (try simp) <;> omega)]; assumption)))
    (first
      | (go_at_call 94
         refine (XT.out _ (by first | exact Below.refl _ _ | exact below_drew _)).mono ?_
         rintro e u2 ⟨v2, rfl, o2, d2⟩
         obtain ⟨A2, c2, rfl⟩ := ownsRow_form o2
         have bb2 := (by first | exact d2 | exact und d2 | exact undN d2 : Below w1.heap.size w1 u2)
         have R2 := Lib.hid (show RI u2 A2 (tupV hs tup hs) from (ints_own o2 (Nat.le_refl _)).mono (Nat.zero_le _) (Nat.le_refl _))
         have s2 := bb2.size
         have B2 := Lib.hid bb2
         clear o2 bb2)
      | (go_at_call 108
         refine (sEqual_any 0 _ 0 _ A2 T c2 ct (tupV hs tup hs) tup (by rw [tupV_len]; omega) (by omega) _ (by first | exact R2.out | exact R2.out.step (below_drew _)) (by first | exact HT.out.step (step B1.out B2.out) | exact (HT.out.step (step B1.out B2.out)).step (below_drew _))).mono ?_
         rintro e u3 ⟨he, d3⟩
         rw [decide_eq_false HC.out] at he
         subst he
         have B3 := Lib.hid (step B2.out (by first | exact d3 | exact und d3 | exact undN d3 : Below u2.heap.size u2 u3))
         have s3 := B3.out.size))
  have R3 := Lib.hid (R1.out.step B3.out)
  have O3 := Lib.hid (O1.out.step B3.out)
  have D3 := Lib.hid (step B1.out B3.out)
  clear d2 d3 x00 t00 x0 x1 t0 k0 k1 R2
  have y0 := R3.out.cell 0
  have y1 := R3.out.cell 1
  have o0 := O3.out.cell 0
  simp only [List.getElem?_toArray, List.getElem?_cons_zero, List.getElem?_cons_succ] at y0 y1 o0
  have y2 := R3.out.frozen 0
  have y3 := R3.out.frozen 1
  have o1 := O3.out.frozen 0
  go_wp2
  have s1 := R3.out.set 0 (.slice none 0 0)
  have s2 := s1.set 1 (.slice none 0 0)
  have s3 := s2.set_other (p := ⟨w.heap.size + 1 + 1 + 1, 0, none⟩) (u := .bool false) (by (try simp) <;> omega)
  have r1 := ((O3.out.set_other (p := ⟨w.heap.size + 1 + 1, 0, none⟩) (u := .slice none 0 0) (by (try simp) <;> omega)).set_other (p := ⟨w.heap.size + 1 + 1, 1, none⟩) (u := .slice none 0 0) (by (try simp) <;> omega)).set 0 (.bool false)
  have bS := Below.setCell (p := ⟨w.heap.size + 1 + 1 + 1, 0, none⟩) (Below.setCell (p := ⟨w.heap.size + 1 + 1, 1, none⟩) (Below.setCell (p := ⟨w.heap.size + 1 + 1, 0, none⟩) D3.out (by (try simp) <;> omega) (.slice none 0 0)) (by (try simp) <;> omega) (.slice none 0 0)) (by (try simp) <;> omega) (.bool false)
  obtain ⟨WF, hWF⟩ : ∃ WF, WF = ((u3.setCell ⟨w.heap.size + 1 + 1, 0, none⟩ (.slice none 0 0)).setCell ⟨w.heap.size + 1 + 1, 1, none⟩ (.slice none 0 0)).setCell ⟨w.heap.size + 1 + 1 + 1, 0, none⟩ (.bool false) := ⟨_, rfl⟩
  rw [← hWF] at s3 r1 bS ⊢
  have z0 := s3.cell 0
  have z1 := s3.cell 1
  have z2 := r1.cell 0
  simp at z0 z1 z2
  refine ⟨.tuple #[.agg #[.slice none 0 0, .slice none 0 0], .bool false], by simp [results, Tryz.results93, go_sem, z0, z1, z2], ?_⟩
  exact ⟨_, _, _, _, _, _, rfl, bS⟩
end Go.Proofs.YtimlpdcambmcjaaGreat

namespace Go.Proofs.YtimlpdcambmcjaaGreat
open Go.ChangeShapes Go.WideShapes Go.ChangeAt Go.RowKit Go.Sort
set_option linter.unusedVariables false
set_option linter.unusedSimpArgs false

theorem tup_of_head {hs tup : List Int} {p : PL} (hv : ∀ t ∈ hs, inB t 10 17 = true) (h : headT hs p = tup) : tupV hs tup hs = tup := by
  subst h
  unfold tupV headT
  refine List.map_congr_left fun t ht => ?_
  exact bval_map (hv t ht) ht
theorem head_dd {hs tup : List Int} (hv : ∀ t ∈ hs, inB t 10 17 = true) (hd : allB 0 9 tup = true) (hl : hs.length = tup.length) (hc : tupV hs tup hs = tup) : headT hs (ddN hs tup hs.length) = tup := by
  have hv' : allB 10 17 hs = true := allB_of fun x hx => by
    have := hv x hx
    simp only [inB, Bool.and_eq_true, decide_eq_true_eq] at this
    exact this
  have hg := ddN_gd hv' hd hl hs.length (Nat.le_refl _)
  refine Eq.trans ?_ hc
  unfold headT tupV
  refine List.map_congr_left fun t ht => ?_
  rw [bval_mem hg.1 (hv t ht) (ddN_all hs tup t ht)]
  exact dd_val hv hl _ (Nat.le_refl _) t (ddN_all hs tup t ht)
theorem maps_yes {hs tup : List Int} {ats fs : FL} (hq : QOk hs ats) (hf : ∀ f ∈ fs, allB 0 9 f.2 = true ∧ f.2.length ≤ 3) (hd : allB 0 9 tup = true) (hl : hs.length = tup.length) (hc : tupV hs tup hs = tup) :
    decide (enum fs ats (ddN hs tup hs.length) ≠ []) = mapsB hs tup (bnds fs ats) := by
  unfold mapsB
  rw [decide_eq_decide]
  exact (map_iff hq (fun f h => (hf f h).1) hd hl (head_dd (fun t ht => (hq.var t ht).1) hd hl hc)).symm
theorem maps_no {hs tup : List Int} {ps : List PL} (hv : ∀ t ∈ hs, inB t 10 17 = true) (hc : tupV hs tup hs ≠ tup) : mapsB hs tup ps = false :=
  decide_eq_false fun ⟨_, _, h⟩ => hc (tup_of_head hv h)

/-- The program's FindMapping of a lawful query. -/
theorem impl_FindMapping_any (H Q F T : Option Addr) (ch c cf ct : Nat) (hs tup : List Int) (ats fs : FL) (hq : QOk hs ats) (hf24 : fs.length ≤ 24) (hfd : ∀ f ∈ fs, allB 0 9 f.2 = true ∧ f.2.length ≤ 3) (hd : allB 0 9 tup = true) (hl : hs.length = tup.length)
    (w : World) (hH : RI w H hs) (hQ : RF w Q ats) (hF : RF w F fs) (hT : RI w T tup) :
    Calls Tryz.prog 93 #[.agg #[.slice H hs.length ch, .slice Q ats.length c], .slice F fs.length cf, .slice T tup.length ct] w (FmO w (mapsB hs tup (bnds fs ats))) := by
  by_cases hc : tupV hs tup hs = tup
  · rw [← maps_yes hq hfd hd hl hc]
    exact impl_FindMapping_con H Q F T ch c cf ct hs tup ats fs hq hf24 hfd hd hl hc w hH hQ hF hT
  · rw [maps_no (fun t ht => (hq.var t ht).1) hc]
    exact impl_FindMapping_no H Q F T ch c cf ct hs tup ats fs hq hf24 hfd hd hl hc w hH hQ hF hT

/-- The values that are taken where the query with the atoms l1 is frozen apart from the one with l2. -/
def cUsed (l1 l2 : FL) : List Int := wl 0 9 (terms l1) ++ wl 0 9 (terms l2)
def cVars (l1 : FL) : List Int := wl 10 17 (terms l1)
def cFs (l1 l2 : FL) : FL := frzR (cUsed l1 l2) (cVars l1) l1
def cUs (l1 l2 : FL) : List Int := frzL (cUsed l1 l2) (cVars l1)
def cVs (l1 l2 : FL) : List Int := frzV (cUsed l1 l2) (cVars l1)
def cOk (l1 l2 : FL) : Bool := frzO (cUsed l1 l2) (cVars l1)
def cTup (h1 : List Int) (l1 l2 : FL) : List Int := tupV (cUs l1 l2) (cVs l1 l2) h1
/-- Is the first query contained in the second one? -/
def conB (s h1 h2 : List Int) (l1 l2 : FL) : Bool :=
  queryB s h1 l1 && queryB s h2 l2 && decide (h1.length = h2.length) && cOk l1 l2 && mapsB h2 (cTup h1 l1 l2) (bnds (cFs l1 l2) l2)
theorem conB_1 {s h1 h2 : List Int} {l1 l2 : FL} (h : queryB s h1 l1 = false) : conB s h1 h2 l1 l2 = false := by unfold conB; rw [h]; rfl
theorem conB_2 {s h1 h2 : List Int} {l1 l2 : FL} (h : queryB s h2 l2 = false) : conB s h1 h2 l1 l2 = false := by unfold conB; rw [h, Bool.and_false]; rfl
theorem conB_3 {s h1 h2 : List Int} {l1 l2 : FL} (h : ¬ h1.length = h2.length) : conB s h1 h2 l1 l2 = false := by unfold conB; rw [decide_eq_false h, Bool.and_false]; rfl
theorem conB_4 {s h1 h2 : List Int} {l1 l2 : FL} (h : cOk l1 l2 = false) : conB s h1 h2 l1 l2 = false := by unfold conB; rw [h, Bool.and_false]; rfl
theorem conB_5 {s h1 h2 : List Int} {l1 l2 : FL} (a : queryB s h1 l1 = true) (b : queryB s h2 l2 = true) (c : h1.length = h2.length) (d : cOk l1 l2 = true) : conB s h1 h2 l1 l2 = mapsB h2 (cTup h1 l1 l2) (bnds (cFs l1 l2) l2) := by
  unfold conB; rw [a, b, decide_eq_true c, d]; rfl
theorem cFs_len (l1 l2 : FL) : (cFs l1 l2).length ≤ l1.length := frzR_len _ _ _
theorem cUs_len (l1 l2 : FL) : (cUs l1 l2).length ≤ 8 := by
  unfold cUs frzL
  split
  · have := wl_len 10 17 (terms l1)
    unfold cVars
    omega
  · simp
theorem cVs_len (l1 l2 : FL) : (cVs l1 l2).length ≤ 8 := by
  unfold cVs frzV
  split
  · have := wl_len 10 17 (terms l1)
    rw [List.length_take]
    unfold cVars
    omega
  · simp
theorem cTup_len (h1 : List Int) (l1 l2 : FL) : (cTup h1 l1 l2).length = h1.length := tupV_len _ _ _
theorem szF_fews {l : FL} (h1 : l.length ≤ 24) (h2 : ∀ f ∈ l, allB 0 9 f.2 = true ∧ f.2.length ≤ 3) : szF l ≤ 1048576 := by
  have := sumN_three l fun a ha => (h2 a ha).2
  unfold szF
  omega
end Go.Proofs.YtimlpdcambmcjaaGreat

namespace Go.Proofs.YtimlpdcambmcjaaGreat
open Go.ChangeShapes Go.WideShapes Go.ChangeAt Go.RowKit Go.Sort
set_option linter.unusedVariables false
set_option linter.unusedSimpArgs false

/-- Atoms of the call's own stay where a box of a query is written. -/
theorem ownC_setT {w : World} {lo hi g i : Nat} {v u : Value} {fs : FL} {cs : List Value} {bs : Nat → Nat} {bx : Array Value} (h : atom.OwnC w lo hi v fs cs bs) (hb : Box w g bx 29) : atom.OwnC (w.setCell ⟨g, i, none⟩ u) lo hi v fs cs bs := by
  have ne : ∀ (b : Nat) (t : TypeId) ds fr, t ≠ 29 → w.heap[b]? = some (Obj.cells ds t fr) → (w.setCell ⟨g, i, none⟩ u).heap[b]? = w.heap[b]? := fun b t ds fr ht e => Below.heap_setCell _ _ _ _ (fun e' => by
    have e2 : b = g := e'
    unfold Box at hb
    rw [e2, hb] at e
    injection e with e
    injection e with _ h2
    exact ht h2.symm)
  refine ⟨⟨h.1.1, ?_⟩, h.2.keep fun q _ _ ⟨c, hc⟩ => ne q _ _ _ (by decide) hc⟩
  rcases h.1.2 with h0 | ⟨g', cap, cur, hv, hbk, hk, hr⟩
  · exact .inl h0
  · exact .inr ⟨g', cap, cur, hv, hbk, (ne g' _ _ _ (by decide) hk).trans hk, hr⟩
/-- One atom of no relation more, behind a row of atoms. -/
theorem apart_done {wr v31 : World} {lo gx c2 g31 cap31 : Nat} {out : FL} {cs : List Value} {bs : Nat → Nat} {A2 : Option Addr} {v : Int} {bx : Array Value}
    (hlo : lo ≤ wr.heap.size) (hO : atom.OwnC wr lo wr.heap.size (.slice A2 out.length c2) out cs bs) (hx : Box wr gx bx 29)
    (hgrow : ((wr.alloc (.cells #[.int .i64 v] 3)).alloc (.cells #[.int .i64 3, .slice (some ⟨wr.heap.size, 0, none⟩) 1 1] 67)).grownBy v31 (Value.slice A2 out.length c2).ownBlock)
    (hown31 : v31.ownsRow lo 67 2 (.slice (some ⟨g31, 0, none⟩) (out.length + 1) cap31) (out.length + 1) (cs ++ [.int .i64 3, .slice (some ⟨wr.heap.size, 0, none⟩) 1 1])) :
    (∃ bs31, atom.OwnC v31 lo v31.heap.size (.slice (some ⟨g31, 0, none⟩) (out.length + 1) cap31) (out ++ [(3, [v])]) (cs ++ [.int .i64 3, .slice (some ⟨wr.heap.size, 0, none⟩) 1 1]) bs31) ∧ Below lo wr v31 ∧ Box v31 gx bx 29 := by
  have ba := below_alloc wr (.cells #[.int .i64 v] 3)
  have bb := below_alloc (wr.alloc (.cells #[.int .i64 v] 3)) (.cells #[.int .i64 3, .slice (some ⟨wr.heap.size, 0, none⟩) 1 1] 67)
  have b2 := step ba bb
  have HO5 := hO.cur (Nat.le_refl _) b2
  have hrow : Row ((wr.alloc (.cells #[.int .i64 v] 3)).alloc (.cells #[.int .i64 3, .slice (some ⟨wr.heap.size, 0, none⟩) 1 1] 67)) wr.heap.size [v] := by
    have h1 : Row (wr.alloc (.cells #[.int .i64 v] 3)) wr.heap.size [v] := ⟨#[.int .i64 v], by rw [heap_alloc_new], rfl, fun i hi => by
      have : i = 0 := by simpa using hi
      subst this
      rfl⟩
    exact h1.step bb
  have HV5 := OwnV.of_row (lo := wr.heap.size) (hi := ((wr.alloc (.cells #[.int .i64 v] 3)).alloc (.cells #[.int .i64 3, .slice (some ⟨wr.heap.size, 0, none⟩) 1 1] 67)).heap.size) (c := 1) hrow (Nat.le_refl _) (by rw [al_size, al_size]; omega) (by simp) (by unfold maxLen; omega)
  have d31 : Below lo ((wr.alloc (.cells #[.int .i64 v] 3)).alloc (.cells #[.int .i64 3, .slice (some ⟨wr.heap.size, 0, none⟩) 1 1] 67)) v31 := (Below.refl _ _).grown hgrow (by rw [al_size, al_size]; omega) (fun q hq => (HO5.1.lt q hq).1)
  obtain ⟨bs31, ho31⟩ := atom.own_append HO5 (Items.one (r := 3) HV5) hlo (by rw [al_size, al_size]; omega) (by simpa using hown31) hgrow
  refine ⟨⟨bs31, by simpa using ho31⟩, (b2.mono hlo).trans d31, ?_⟩
  have hx2 := hx.step b2
  refine (hgrow.block gx hx2.lt (fun e' => ?_)).trans hx2
  rcases HO5.1.2 with ⟨hv, _⟩ | ⟨g, cap, cur, hv, hbk, hk, _⟩
  · rw [hv] at e'; simp [Value.ownBlock] at e'
  · have e2 : g = gx := own_some (by rw [← hv]; exact e'.symm)
    unfold Box at hx2
    rw [e2, hx2] at hk
    injection hk with hk
    injection hk with _ h2
    exact absurd h2 (by decide)

/-- Facts in a row of the call's own, their numbers wherever the world u has them. -/
def FC (lo : Nat) (u w : World) (base : Nat) (v : Value) (fs : FL) : Prop :=
  ∃ cs, w.ownsRow base 77 2 v fs.length cs ∧ ∀ k, k < fs.length → ∃ B c, cs[k * 2]? = some (.int .i64 (fs.getD k (0, [])).1) ∧ cs[k * 2 + 1]? = some (.slice B (fs.getD k (0, [])).2.length c) ∧ (fs.getD k (0, [])).2.length ≤ c ∧ c ≤ maxLen ∧ Ints u lo u.heap.size B (fs.getD k (0, [])).2
theorem FC.form {u w : World} {lo base : Nat} {v : Value} {fs : FL} (h : FC lo u w base v fs) : ∃ A c, v = .slice A fs.length c := by
  obtain ⟨cs, h, _⟩ := h
  exact ownsRow_form h
theorem FC.step {u w w' : World} {lo base : Nat} {v : Value} {fs : FL} (h : FC lo u w base v fs) (b : Below w.heap.size w w') : FC lo u w' base v fs := by
  obtain ⟨cs, h1, h2⟩ := h
  exact ⟨cs, ownsRow_step h1 b, h2⟩
theorem FC.facts {u w : World} {lo base c : Nat} {A : Option Addr} {fs : FL} (h : FC lo u w base (.slice A fs.length c) fs) (b : Below u.heap.size u w) (hl : lo ≤ base) : Facts w lo w.heap.size A fs := fun hne => by
  obtain ⟨cs, h1, h2⟩ := h
  have hn : 0 < fs.length := List.length_pos_iff.2 hne
  rcases h1.2 with ⟨hv, h0⟩ | ⟨g, cap, cur, hv, hbk, hk, hr⟩
  · omega
  · injection hv with e1 e2 e3
    subst e1
    refine ⟨g, 0, rfl, by omega, (Array.getElem?_eq_some_iff.1 hk).1, fun k hk' => ?_⟩
    obtain ⟨B, c', e1, e2, e3, e4, e5⟩ := h2 k hk'
    have q1 := World.ownsRow.cells h1 (g := g) rfl _ _ e1
    have q2 := World.ownsRow.cells h1 (g := g) rfl _ _ e2
    rw [add_eq] at q1 q2
    exact ⟨B, c', by simpa using q1, by simpa [Nat.add_assoc] using q2, e3, e4, (e5.keep fun q _ hq => b.block q hq).mono (Nat.le_refl _) b.size⟩
theorem getD_snocF (ps : FL) (p : Int × List Int) (k : Nat) (hk : k < (ps ++ [p]).length) : (ps ++ [p]).getD k (0, []) = if k < ps.length then ps.getD k (0, []) else p := by
  rw [List.length_append, List.length_singleton] at hk
  by_cases h : k < ps.length
  · rw [if_pos h, List.getD_eq_getElem?_getD, List.getElem?_append_left h, ← List.getD_eq_getElem?_getD]
  · have : k = ps.length := by omega
    subst this
    rw [if_neg h]
    simp [List.getD_eq_getElem?_getD]
/-- append(v, f) of one fact that is shared. -/
theorem wpList_pushFC {P : Program} {u W : World} {ops : Array Oper} {rest : List Oper} {o : Oper} {a : Act} {Q : Exit → Act → World → Prop} (hgd : o.guard = none) (s x : Operand) (t : TypeId)
    (ho : o.op = .call { callee := .builtin .append, args := #[s, x], argTypes := #[t, t] })
    (i : TypeInfo) (z : Value) (ht : P.underlying t = some (.slice 77)) (hi : P.info? 77 = some i) (hz : i.zero = some z) (hz1 : i.size = 2) (hz2 : i.bytes = 32) (hzs : z.cells.size = 2)
    {lo base : Nat} {v : Value} {ps : FL} {r : Int} {xs : List Int} {B : Option Addr} {c : Nat} (hs : a.eval s = v) (hx : a.eval x = .slice (some ⟨W.heap.size, 0, none⟩) 1 1)
    (hown : FC lo u W base v ps) (hxc : xs.length ≤ c) (hcm : c ≤ maxLen) (hE : Ints u lo u.heap.size B xs) (hbase : base ≤ W.heap.size) (hn : ps.length + 1 ≤ 1099511627776)
    (h : ∀ v' w', FC lo u w' base v' (ps ++ [(r, xs)]) → Below base W w' → wpList P ops Q rest (a.put o.dst v') w') :
    wpList P ops Q (o :: rest) a (W.alloc (.cells #[.int .i64 r, .slice B xs.length c] 77)) := by
  obtain ⟨cs, h1, h2⟩ := hown
  refine wpList_append_own (P := P) _ hgd s x t ho base 77 i _ 2 32 ht hi hz hz1 hz2 hzs (by omega) v ps.length cs hs (h1.alloc _) ⟨W.heap.size, 0, none⟩ 1 1 [.int .i64 r, .slice B xs.length c] hx rfl
    (World.news_of_block (cs := #[.int .i64 r, .slice B xs.length c]) (t := 77) (fr := (0, 0)) (heap_alloc_new W _)) (by simp [Value.oneCell'])
    (by unfold maxLen; omega) (by omega) (by simp; omega) ?_
  intro v' w' hown' hg _
  have hcl : cs.length = ps.length * 2 := h1.1
  have hB : Below base W w' := ((below_alloc W _).mono hbase).trans ((Below.refl _ _).grown hg (by rw [al_size]; omega) (fun q hq => ((h1.alloc (.cells #[.int .i64 r, .slice B xs.length c] 77)).lt q hq).1))
  refine h v' w' ⟨cs ++ [.int .i64 r, .slice B xs.length c], by rw [List.length_append]; exact hown', fun k hk => ?_⟩ hB
  rw [getD_snocF ps (r, xs) k hk]
  rw [List.length_append, List.length_singleton] at hk
  by_cases hlt : k < ps.length
  · rw [if_pos hlt]
    obtain ⟨B', c', e1, e2, e3, e4, e5⟩ := h2 k hlt
    refine ⟨B', c', ?_, ?_, e3, e4, e5⟩
    · rw [List.getElem?_append_left (by omega)]; exact e1
    · rw [List.getElem?_append_left (by omega)]; exact e2
  · have : k = ps.length := by omega
    subst this
    rw [if_neg hlt]
    refine ⟨B, c, ?_, ?_, hxc, hcm, hE⟩
    · rw [List.getElem?_append_right (by omega), hcl]; simp
    · rw [List.getElem?_append_right (by omega), hcl, show ps.length * 2 + 1 - ps.length * 2 = 1 by omega]; rfl
theorem isRel_take (F : FL) {k : Nat} (hk : k < F.length) {r : Int} {xs : List Int} (hf : F.getD k (0, []) = (r, xs)) : (F.take (k + 1)).filter isRel = (F.take k).filter isRel ++ (if r < 3 then [(r, xs)] else []) := by
  rw [take_snocA F hk hf, List.filter_append]
  congr 1
  by_cases h : r < 3 <;> simp [isRel, h]
end Go.Proofs.YtimlpdcambmcjaaGreat
