/- What the program's AnswersOf answers. Conditions: none beyond each theorem's own. What the law on AnswersOf carries from call to call. Conditions: none beyond each theorem's own. -/
import Derived.Test.YtighalbnpgmdfaaGreatAg12
import Derived.Test.YtighalbnpgmdfaaGreatAg15
import Derived.RangeFuncLeaves
import Derived.Shelf.RegionOpen
import Derived.Test.YtighalbnpgmdfaaGreatAg4
import Derived.Test.YtighalbnpgmdfaaGreatAre
import Derived.Test.YtighalbnpgmdfaaGreatTupX

namespace Go.Proofs.YtighalbnpgmdfaaGreat
open Go.ChangeShapes Go.WideShapes Go.ChangeAt Go.RowKit Go.Sort
open Go.Maps (Keyed int_keyed keyOf_int_mk)
set_option linter.unusedVariables false
set_option linter.unusedSimpArgs false
attribute [local go_sem] Oper.semAt_some

theorem head_okI {hs : List Int} {p : PL} (hp : Gd p ∧ ∀ h ∈ hs, inB h 10 17 = true ∧ h ∈ p.1) : (∀ h ∈ hs, wf h ∧ h ∈ p.1) ∧ headP hs p = headT hs p ∧ allB 0 9 (headP hs p) = true := by
  have e := headP_T hp.1.1 hp.2
  refine ⟨fun h hh => ⟨?_, (hp.2 h hh).2⟩, e, by rw [e]; exact (headT_ok hp.1 hp.2).2⟩
  have := (hp.2 h hh).1
  simp only [inB, Bool.and_eq_true, decide_eq_true_eq] at this
  exact WalkArith.wf_i64 ⟨by omega, by omega⟩
theorem addOutT_nil {w w' : World} (h : Below w.heap.size w w') : AddOutT w [] (.returned (.slice none 0 0)) w' := ⟨none, 0, [], fun _ => 0, rfl, ⟨World.ownsRow_nil _ _ _ _, ItemsT.nil _ _ _⟩, h⟩
theorem AddOutT.from {w w1 w' : World} {r : TL} {e : Ending} (h : AddOutT w1 r e w') (b : Below w.heap.size w w1) : AddOutT w r e w' := by
  obtain ⟨A, c, cs, bs, h1, h2, h3⟩ := h
  exact ⟨A, c, cs, bs, h1, h2.lo b.size, step b h3⟩
theorem AM.made (w : World) : AM (w.alloc (.map #[] 0)) w.heap.size [] :=
  ⟨0, _, World.ownsMap_made w Tryz.prog 68 (plainElem (H := Unit) Tryz.prog 4), Nat.zero_le _, AK.start⟩

set_option maxRecDepth 100000 in
set_option maxHeartbeats 4000000 in
theorem impl_AnswersOf (S H Q F : Option Addr) (cs ch c cf : Nat) (s hs : List Int) (ats fs : FL) (hls : s.length ≤ 1048576) (hh : hs.length ≤ 1048577) (hz : szF ats ≤ 1048576) (hzf : szF fs ≤ 1048576)
    (w : World) (hS : RI w S s) (hH : RI w H hs) (hQ : RF w Q ats) (hF : RF w F fs) :
    Calls Tryz.prog 11 #[.slice S s.length cs, .agg #[.slice H hs.length ch, .slice Q ats.length c], .slice F fs.length cf] w (AddOutT w (ansT s hs ats fs)) := by
  have hmm := @run_makeMap Tryz.prog
  have b0 := below_alloc w (.cells #[.slice H hs.length ch, .slice Q ats.length c] 34)
  have B0 := Lib.hid b0
  have X0 := Lib.hid (Box.new w #[.slice H hs.length ch, .slice Q ats.length c] 34)
  obtain ⟨W0, hW0⟩ : ∃ W0, W0 = w.alloc (.cells #[.slice H hs.length ch, .slice Q ats.length c] 34) := ⟨_, rfl⟩
  have hsz0 : w.heap.size + 1 = W0.heap.size := by rw [hW0, al_size]
  rw [← hW0] at b0 B0 X0
  have EW := Lib.hid hW0
  have hss := hS.step b0
  have hhh := hH.step b0
  have hqq := hQ.step b0
  have hff := hF.step b0
  have XQ := Lib.hid (impl_IsQuery S H Q cs ch c s hs ats hls hh hz W0 hss hhh hqq)
  have XF := Lib.hid fun (W : World) (hW : Below W0.heap.size W0 W) => impl_AreFacts S cs s F cf fs hls hzf W (hss.step hW) (hff.step hW)
  have g0 := X0.out.cell 0
  have g1 := X0.out.cell 1
  simp only [List.getElem?_toArray, List.getElem?_cons_zero, List.getElem?_cons_succ] at g0 g1
  clear hW0
  by_cases c1 : queryB s hs ats = true
  · have C1 := Lib.hid c1
    by_cases c2 : areB s fs = true
    · have C2 := Lib.hid c2
      have QO := Lib.hid (QOk.of c1)
      have FO := Lib.hid (areB_few c2)
      have E := Lib.hid (show ansT s hs ats fs = tupA hs (bnds fs ats) from if_pos ⟨c1, c2⟩)
      have BO := Lib.hid fun (p : PL) (hp : p ∈ bnds fs ats) => bnds_ok QO.out (fun f hf => (FO.out.2 f hf).1) hp
      have HH := Lib.hid hH
      have HQ := Lib.hid hQ
      have HF := Lib.hid hF
      rw [E.out]
      clear c1 c2 hss hhh hqq hff b0 hS hH hQ hF
      refine (callsIn_wide (n := 4)).1 ?_
      refine callsIn_of_wp_marks Tryz.func11 rfl trivial ?_ rfl
      simp only [Tryz.ntmps11, List.size_toArray, List.length_cons, List.length_nil, Nat.reduceAdd, Nat.reduceSub, Array.replicate_succ, Array.replicate_zero, List.push_toArray, List.append_toArray, List.nil_append, List.cons_append]
      refine wpIn_wide.2 ?_
      go_wp2_with fail
      rw [← EW.out]
      refine XQ.out.mono ?_
      rintro e u1 ⟨he, d1⟩
      rw [C1.out] at he
      subst he
      have D1 := Lib.hid d1
      clear d1
      go_wp2_with fail
      refine (XF.out _ D1.out).mono ?_
      rintro e u2 ⟨he, d2⟩
      rw [C2.out] at he
      subst he
      have D2 := Lib.hid (step D1.out d2)
      have hsu := D2.out.size
      have hlt2 : w.heap.size < u2.heap.size := by omega
      have hb3 := step (below_alloc u2 (.map #[] 0)) (below_alloc _ (.cells #[.map (some u2.heap.size)] 61))
      have A3 := Lib.hid ((AM.made u2).keep ((below_alloc (u2.alloc (.map #[] 0)) (.cells #[.map (some u2.heap.size)] 61)).block u2.heap.size (by rw [al_size]; omega)))
      have BX3 := Box.new (u2.alloc (.map #[] 0)) #[.map (some u2.heap.size)] 61
      rw [al_size] at BX3
      obtain ⟨W3, hW3⟩ : ∃ W, W = (u2.alloc (.map #[] 0)).alloc (.cells #[.map (some u2.heap.size)] 61) := ⟨_, rfl⟩
      have hs3 : u2.heap.size + 2 = W3.heap.size := by rw [hW3, al_size, al_size]
      rw [← hW3] at hb3 A3 BX3
      have EW3 := Lib.hid hW3
      have D3 := Lib.hid (step (step B0.out D2.out) hb3)
      have X3 := Lib.hid ((X0.out.step D2.out).step hb3)
      have Y3 := Lib.hid BX3
      have z0 := X3.out.cell 0
      have z1 := X3.out.cell 1
      have y0 := BX3.cell 0
      have y1 := BX3.frozen 0
      simp only [List.getElem?_toArray, List.getElem?_cons_zero, List.getElem?_cons_succ] at z0 z1 y0
      clear d2 g0 g1 hb3 BX3 hW3
      go_upto_region 4 with fail
      rw [← EW3.out]
      clear y0 y1
      go_wp2_with fail
      refine (matchingsOf_any H Q F none none ch c cf 0 0 hs.length ats.length fs.length 0 0 W3).mono ?_
      rintro e w4 ⟨rfl, d4, s4, bq4, bf4, bk4⟩
      have D4 := Lib.hid (step D3.out d4)
      have A4 := Lib.hid (A3.out.keep (d4.block u2.heap.size (by omega)))
      have X4 := Lib.hid (X3.out.step d4)
      have Y4 := Lib.hid (Y3.out.step d4)
      have SQ := Lib.hid (matchings_seq w.heap.size (W3.heap.size + 1 + 1) W3.heap.size (W3.heap.size + 1) H Q F ch c cf hs ats fs QO.out FO.out.1 FO.out.2 w4 D4.out.size (HQ.out.keep fun b _ hb => D4.out.block b hb) (HF.out.keep fun b _ hb => D4.out.block b hb) bk4 bq4 bf4)
      have xl4 := X4.out.lt
      have yl4 := Y4.out.lt
      have sw4 := D4.out.size
      clear d4 bq4 bf4 bk4 z0 z1
      go_wp2
      refine (wpIn_wide (n := 4)).1 ?_
      refine wpIn_rangeM (F := Fence.wide) (n := 4) rfl (by omega) (gf := 67) (lb := #[.pointer (some ⟨W3.heap.size + 1 + 1, 0, none⟩), .pointer (some ⟨W3.heap.size, 0, none⟩), .pointer (some ⟨W3.heap.size + 1, 0, none⟩)]) rfl trivial (enters_of Tryz.func67 (by kernel_rfl) rfl) SQ.out
        (by rintro b (h | rfl | rfl | rfl) <;> omega) (fun b => b = u2.heap.size) (by rintro b rfl; exact ⟨by rintro (h | h | h | h) <;> omega, by omega⟩) (fun _ => rfl)
        (fun B x A C h hs hk => ⟨h.1.keepB hk, h.2⟩)
        (fun (pre : List (Nat × PL)) W => AM W u2.heap.size (pre.map fun x : Nat × PL => headP hs x.2) ∧ Turns (fun b => b = u2.heap.size) w4 W) (fun _ _ _ => False)
        (fun s A C h hb => ⟨h.1.keep (hb.block _ (by omega)), ⟨hb.os.trans h.2.os, hb.tape.trans h.2.tape, hb.output.trans h.2.output, Nat.le_trans h.2.size hb.size, fun b hb' hn => (hb.block b hb').trans (h.2.block b hb' hn)⟩⟩)
        (fun _ _ _ _ h _ => h) ⟨A4.out, Turns.refl _ _⟩ ?a1 ?assign ?body ?done ?stop
      case assign =>
        intro l x W K hK
        gi_wp2
        exact hK
      case stop =>
        rintro D c pre W _ _ h _
        exact h.elim
      case body =>
        rintro l pre x W ⟨hA, hT⟩ hsz ⟨hms, hxb⟩ hlen
        have hmx : Tryz.prog.follows .mixedOrders = true := by kernel_rfl
        have hd : 1 ≤ 4 - 1 - 1 := by omega
        have BP := BO.out x.2 hxb
        have HO := head_okI BP
        have hin := HO.1
        have hdig := HO.2.2
        clear HO
        have HKY := Lib.hid (ky_of hdig)
        have HD := Lib.hid hdig
        have bX := Lib.hid (show Box W w.heap.size _ _ from (hT.block w.heap.size xl4 (by omega)).trans X4.out)
        have bY := Lib.hid (show Box W (u2.heap.size + 1) _ _ from (hT.block (u2.heap.size + 1) yl4 (by omega)).trans Y4.out)
        have HHW := Lib.hid (show RI W H hs from (((show Ints w 0 w.heap.size H hs from HH.out).keep fun b _ hb => D4.out.block b hb).keep fun b _ hb => hT.block b (by omega) (by omega)).mono (Nat.zero_le _) (by have := hT.size; omega))
        have XH := Lib.hid fun (U : World) (hU : Below W.heap.size W U) => headOf_any (w4.heap.size + 2) x.1 ([], []) x.2 x.2.1 H Q ch c hs ats QO.out.head hin U (Nat.le_trans hsz hU.size) (HHW.out.step hU) (MS.below hsz hms hU)
        obtain ⟨n, Dm, hM, hn, hK⟩ := hA
        have HM := Lib.hid hM
        have HK := Lib.hid hK
        have xlW := bX.out.lt
        have ylW := bY.out.lt
        have a0 := bY.out.cell 0
        have q0 := bX.out.cell 0
        have q1 := bX.out.cell 1
        simp only [List.getElem?_toArray, List.getElem?_cons_zero, List.getElem?_cons_succ] at a0 q0 q1
        clear hdig BP hM hK hms hin
        gi_wp2
        gi_region_with_o (refine ⟨trivial, ?_⟩; gi_at_call 36; refine (CallsIn.inRound l ((callsIn_wide (n := 1)).2 (XH.out _ (by first | exact Below.refl _ _ | exact below_drew _)))).mono ?_; rintro e u5 ⟨rfl, d5⟩
                          have b5 := Lib.hid (show Below W.heap.size W u5 by first | exact d5 | exact und d5 | exact undN d5)
                          have M5 := Lib.hid (World.ownsMap.kept (w' := u5) HM.out (row := none) ⟨b5.out.os, b5.out.tape, b5.out.output, b5.out.size, fun i hi _ => b5.out.block i hi⟩ (by simp))
                          obtain ⟨u6, hrun6, hown6, hg6⟩ := M5.out.update (t := 61) lawK Tryz.underlying61 (by unfold maxLen; have := bnds_few fs ats FO.out.1 QO.out.few.2; rw [List.length_map] at hn; omega) HKY.out (plainElem_bool Tryz.underlying4 true)
                          have M6 := Lib.hid hown6
                          have G6 := Lib.hid hg6
                          have a5 := (b5.out.cell (p := ⟨u2.heap.size + 1, 0, none⟩) ylW).trans a0
                          clear d5 hown6 hg6)
        all_goals gi_wp2
        all_goals
          have GT : Turns (fun b => b = u2.heap.size) W u6 := ⟨G6.out.os.trans b5.out.os, G6.out.tape.trans b5.out.tape, G6.out.output.trans b5.out.output, Nat.le_trans b5.out.size G6.out.size, fun b hb hne => (G6.out.block b (Nat.lt_of_lt_of_le hb b5.out.size) (fun e => by injection e with e; exact hne e)).trans (b5.out.block b hb)⟩
          refine ⟨GT, ⟨n + 1, _, M6.out, ?_, ?_⟩, hT.trans GT⟩
          · rw [List.length_map] at hn ⊢
            rw [List.length_append]
            simp
            omega
          · rw [List.map_append]
            exact HK.out.put HD.out _
      case done =>
        rintro D xs W hD ⟨g, rfl⟩ ⟨hA, hT⟩ hK
        have EQL : (((bnds fs ats).map (Prod.mk g)).map fun x : Nat × PL => headP hs x.2) = (bnds fs ats).map (headT hs) := by
          rw [List.map_map]
          exact List.map_congr_left fun p hp => (head_okI (BO.out p hp)).2.1
        rw [EQL] at hA
        have hDW := (Array.getElem?_eq_some_iff.1 hK).1
        have bX : Box W w.heap.size _ _ := (hT.block w.heap.size xl4 (by omega)).trans X4.out
        have bY : Box W (u2.heap.size + 1) _ _ := (hT.block (u2.heap.size + 1) yl4 (by omega)).trans Y4.out
        have TW := Lib.hid (show Below w.heap.size w W from D4.out.trans ⟨hT.os, hT.tape, hT.output, hT.size, fun b hb => hT.block b (by omega) (by omega)⟩)
        have z0 := bX.cell 0
        have z1 := bX.cell 1
        have y0 := bY.cell 0
        simp only [List.getElem?_toArray, List.getElem?_cons_zero, List.getElem?_cons_succ] at z0 z1 y0
        have XS := Lib.hid (sortAns_any u2.heap.size hs.length _ QO.out.head (fun t ht => by
          obtain ⟨p, hp, rfl⟩ := List.mem_map.1 ht
          exact headT_ok (BO.out p hp).1 (BO.out p hp).2) W hA)
        have HKD := Lib.hid hK
        clear hA hT bX bY hK
        go_wp2_with fail
        refine XS.out.mono ?_
        rintro e u5 ⟨r, hasc, hmem, A5, c5, cs5, bs5, rfl, hO5, hB5⟩
        have ER := Lib.hid (show tupA hs (bnds fs ats) = r from tupA_is hasc fun x => by rw [hmem, List.mem_map])
        have O5 := Lib.hid hO5
        have B5 := Lib.hid hB5
        have K5 := Lib.hid ((hB5.block D hDW).trans HKD.out)
        clear hasc hmem hO5 hB5
        go_wp2
        refine ⟨by simp, .inl ⟨_, _, rfl, run_takeDeferred K5.out, ?_⟩⟩
        rw [ER.out]
        refine ⟨_, results_tmp rfl _ _ _, A5, c5, cs5, bs5, rfl, ?_, ?_⟩
        · have h1 := OwnCT.turned O5.out (Nat.le_refl _) (grownBy_putObj' u5 D (.deferred none)) hDW
          exact OwnCT.lo ⟨h1.1, h1.2.mono (Nat.le_refl _) (grownBy_putObj' u5 D (.deferred none)).size⟩ TW.out.size
        · exact (step TW.out B5.out).trans (below_put u5 D _ (.deferred none) (by omega) K5.out)
    · have C2 := Lib.hid (show areB s fs = false by simpa using c2)
      have E := Lib.hid (ansT_no (s := s) (hs := hs) (ats := ats) (fs := fs) (fun h => c2 h.2))
      rw [E.out]
      clear c1 c2 hss hhh hqq hff b0 hS hH hQ hF
      go_enter Tryz.func11, Tryz.ntmps11
      go_wp2_with fail
      rw [← EW.out]
      refine XQ.out.mono ?_
      rintro e u1 ⟨he, d1⟩
      rw [C1.out] at he
      subst he
      have D1 := Lib.hid d1
      clear d1
      go_wp2_with fail
      refine (XF.out _ D1.out).mono ?_
      rintro e u2 ⟨he, d2⟩
      rw [C2.out] at he
      subst he
      have D2 := Lib.hid (step D1.out d2)
      clear d2 g0 g1
      go_wp2
      go_ret
      exact addOutT_nil (step B0.out D2.out)
  · have C1 := Lib.hid (show queryB s hs ats = false by simpa using c1)
    have E := Lib.hid (ansT_no (s := s) (hs := hs) (ats := ats) (fs := fs) (fun h => c1 h.1))
    rw [E.out]
    clear c1 hss hhh hqq hff b0 hS hH hQ hF
    go_enter Tryz.func11, Tryz.ntmps11
    go_wp2_with fail
    rw [← EW.out]
    refine XQ.out.mono ?_
    rintro e u1 ⟨he, d1⟩
    rw [C1.out] at he
    subst he
    have D1 := Lib.hid d1
    clear d1 g0 g1
    go_wp2
    go_ret
    exact addOutT_nil (step B0.out D1.out)
end Go.Proofs.YtighalbnpgmdfaaGreat

namespace Go.Proofs.YtighalbnpgmdfaaGreat
open Go.ChangeShapes Go.WideShapes Go.ChangeAt Go.RowKit Go.Sort
set_option linter.unusedVariables false
set_option linter.unusedSimpArgs false

/-- Lists that lie below block hi. -/
def VT (w : World) (hi : Nat) (A : Option Addr) (ts : TL) : Prop := Tups w 0 hi A ts ∧ hi ≤ w.heap.size
theorem VT.of {w : World} {A : Option Addr} {ts : TL} (h : RT w A ts) : VT w w.heap.size A ts := ⟨h, Nat.le_refl _⟩
theorem VT.keep {w w' : World} {hi : Nat} {A : Option Addr} {ts : TL} (h : VT w hi A ts) (hk : ∀ b, b < hi → w'.heap[b]? = w.heap[b]?) (hs : w.heap.size ≤ w'.heap.size) : VT w' hi A ts := ⟨h.1.keep fun b _ hb => hk b hb, Nat.le_trans h.2 hs⟩
theorem VT.step {w w' : World} {hi : Nat} {A : Option Addr} {ts : TL} (h : VT w hi A ts) (b : Below w.heap.size w w') : VT w' hi A ts := h.keep (fun q hq => b.block q (by have := h.2; omega)) b.size
theorem VT.rt {w : World} {hi : Nat} {A : Option Addr} {ts : TL} (h : VT w hi A ts) : RT w A ts := h.1.mono (Nat.le_refl _) h.2

/-- A list of the call's own, or none. -/
def GX (w : World) (lo hi : Nat) (A : Option Addr) (m : Nat) (ts : TL) : Prop := hi ≤ w.heap.size ∧ ((A = none ∧ ts = []) ∨ ∃ g, A = some ⟨g, 0, none⟩ ∧ TX w lo hi g m ts)
theorem GX.keep {w w' : World} {lo hi m : Nat} {A : Option Addr} {ts : TL} (h : GX w lo hi A m ts) (hk : ∀ b, lo ≤ b → b < hi → w'.heap[b]? = w.heap[b]?) (hs : w.heap.size ≤ w'.heap.size) : GX w' lo hi A m ts :=
  ⟨Nat.le_trans h.1 hs, h.2.imp id fun ⟨g, e, p⟩ => ⟨g, e, p.keep hk hs⟩⟩
theorem GX.step {w w' : World} {lo hi m : Nat} {A : Option Addr} {ts : TL} (h : GX w lo hi A m ts) (b : Below w.heap.size w w') : GX w' lo hi A m ts := h.keep (fun q _ hq => b.block q (by have := h.1; omega)) b.size
theorem GX.rt {w : World} {lo hi m : Nat} {A : Option Addr} {ts : TL} (h : GX w lo hi A m ts) : RT w A ts := by
  rcases h.2 with ⟨_, rfl⟩ | ⟨g, rfl, p⟩
  · exact fun hne => absurd rfl hne
  · exact p.rt
def AddGX (w : World) (res : TL) (e : Ending) (w' : World) : Prop := ∃ A c, e = .returned (.slice A res.length c) ∧ GX w' w.heap.size w'.heap.size A c res ∧ Below w.heap.size w w'
theorem AddOutT.toGX {w : World} {res : TL} {e : Ending} {w' : World} (h : AddOutT w res e w') : AddGX w res e w' := by
  obtain ⟨A, c, cs, bs, he, ho, hb⟩ := h
  refine ⟨A, c, he, ⟨Nat.le_refl _, ?_⟩, hb⟩
  rcases ho.addr with ⟨hA, hn⟩ | ⟨g, rfl⟩
  · exact .inl ⟨hA, hn⟩
  · obtain ⟨_, hc, hp⟩ := ho.to_P
    exact .inr ⟨g, rfl, hp, Nat.le_refl _, hc⟩
theorem Within.none (lo hi : Nat) (w : World) : Within lo hi w w := Within.refl _ _ _
theorem markIntSS_g (lo hi m c : Nat) (A : Option Addr) (ts : TL) (hl : ts.length ≤ 1048577) (hz : sumT ts ≤ 2097152) (he : ∀ k, k < ts.length → (ts.getD k []).length ≤ 1048576) (w : World) (h : GX w lo hi A m ts) :
    Calls Tryz.prog 19 #[.slice A ts.length c, .int .i64 1] w fun e w' => e = .returned (.int .i64 (1 + sumT ts)) ∧ RT w' A (mkT 1 ts ts.length) ∧ Within lo hi w w' := by
  rcases h.2 with ⟨rfl, rfl⟩ | ⟨g, rfl, p⟩
  · refine (markIntSS_zero none c 1 w (by omega) (by omega)).mono ?_
    rintro e w' ⟨rfl, rfl⟩
    exact ⟨rfl, fun hne => absurd rfl hne, Within.refl _ _ _⟩
  · exact markIntSS_x lo hi g m c 1 ts hl hz he (by omega) (by omega) w p
theorem ansT_small (s hs : List Int) (ats fs : FL) : (ansT s hs ats fs).length ≤ 1000 ∧ sumT (ansT s hs ats fs) ≤ 4000 ∧ ∀ k, k < (ansT s hs ats fs).length → ((ansT s hs ats fs).getD k []).length ≤ 1048576 := by
  by_cases h : queryB s hs ats = true ∧ areB s fs = true
  · have QO := QOk.of h.1
    have FO := areB_few h.2
    have e : ansT s hs ats fs = tupA hs (bnds fs ats) := if_pos h
    obtain ⟨a, b, c⟩ := tupA_small QO.head (ps := bnds fs ats) fun p hp => bnds_ok QO (fun f hf => (FO.2 f hf).1) hp
    rw [e]
    refine ⟨a, by unfold szT at b; omega, fun k hk => ?_⟩
    have := (c _ (getD_memT hk)).1
    have := QO.head
    omega
  · rw [ansT_no h]
    exact ⟨by simp, by simp [sumT], fun k hk => by simp at hk⟩
end Go.Proofs.YtighalbnpgmdfaaGreat
