/- What the program's FindMapping tells of a lawful query. Conditions: none beyond each theorem's own. -/
import Derived.Test.YtimlpdcambmcjaaGreatSJt1
import Derived.Test.YtimlpdcambmcjaaGreatS31
import Derived.Test.YtimlpdcambmcjaaGreatS22
import Derived.Test.YtimlpdcambmcjaaGreatS23
import Derived.Test.YtimlpdcambmcjaaGreatS10
import Derived.RangeFuncLeaves
import Derived.Shelf.RegionOpen
import Derived.Deep.RegionHeld3
import Derived.Deep.DeepCutAuto
import Derived.Deep.Cut

namespace Go.Proofs.YtimlpdcambmcjaaGreat
open Go.ChangeShapes Go.WideShapes Go.ChangeAt Go.RowKit Go.Sort
set_option linter.unusedVariables false
set_option linter.unusedSimpArgs false
attribute [local go_sem] Oper.semAt_some

theorem Turns.setC {M : Nat → Prop} {w a : World} (h : Turns M w a) (p : Addr) (v : Value) (hp : M p.block) : Turns M w (a.setCell p v) :=
  ⟨h.os, h.tape, h.output, by rw [set_size]; exact h.size, fun b hb hn => (Below.heap_setCell _ _ _ _ (fun e => hn (by rw [e]; exact hp))).trans (h.block b hb hn)⟩
/-- Whether there is a mapping: the second result. -/
def FmO (w : World) (b : Bool) (e : Ending) (w' : World) : Prop := ∃ X n c Y m d, e = .returned (.tuple #[.agg #[.slice X n c, .slice Y m d], .bool b]) ∧ Below w.heap.size w w'
/-- What a matching's binding is to say: the head's values. -/
def BoC (H Q : Option Addr) (ch c : Nat) (hs tup : List Int) (ats fs : FL) (p0 : PL) : Prop := ∀ (W : World) (base g : Nat) (q : PL), base ≤ W.heap.size → MS W base g p0 q (adq p0 q) → q ∈ enum fs ats p0 → RF W Q ats →
  Calls Tryz.prog 132 #[.pointer (some ⟨g, 0, none⟩), .agg #[.slice H hs.length ch, .slice Q ats.length c]] W fun e w' => ∃ (X Y : Option Addr) (cx cy : Nat) (us vs : List Int), e = .returned (.agg #[.slice X us.length cx, .slice Y vs.length cy]) ∧ RI w' X us ∧ RI w' Y vs ∧ us.length ≤ 1048576 ∧ vs.length ≤ 1048576 ∧ tupV us vs hs = tup ∧ Below W.heap.size W w'

set_option maxRecDepth 100000 in
set_option maxHeartbeats 4000000 in
theorem impl_FindMapping_yes (H Q F T : Option Addr) (ch c cf ct : Nat) (hs tup : List Int) (ats fs : FL) (hq : QOk hs ats) (hf24 : fs.length ≤ 24) (hfd : ∀ f ∈ fs, allB 0 9 f.2 = true ∧ f.2.length ≤ 3) (hd : allB 0 9 tup = true) (hl : hs.length = tup.length)
    (hc : tupV hs tup hs = tup) (hBO : BoC H Q ch c hs tup ats fs (ddN hs tup hs.length)) (hgd : Gd (ddN hs tup hs.length)) (hwf : (∀ x ∈ hs, wf x) ∧ ∀ x ∈ tup, wf x)
    (w : World) (hH : RI w H hs) (hQ : RF w Q ats) (hF : RF w F fs) (hT : RI w T tup) :
    Calls Tryz.prog 93 #[.agg #[.slice H hs.length ch, .slice Q ats.length c], .slice F fs.length cf, .slice T tup.length ct] w (FmO w (decide (enum fs ats (ddN hs tup hs.length) ≠ []))) := by
  have hh3 := hq.head
  have ht3 : tup.length ≤ 3 := by omega
  obtain ⟨w0, hw0⟩ : ∃ W, W = (((w.alloc (.cells #[.slice H hs.length ch, .slice Q ats.length c] 29)).alloc (.cells #[.slice T tup.length ct] 22)).alloc (.cells #[.slice none 0 0, .slice none 0 0] 100)).alloc (.cells #[.bool false] 4) := ⟨_, rfl⟩
  have b1 := below_alloc w (.cells #[.slice H hs.length ch, .slice Q ats.length c] 29)
  have b2 := below_alloc (w.alloc (.cells #[.slice H hs.length ch, .slice Q ats.length c] 29)) (.cells #[.slice T tup.length ct] 22)
  have b3 := below_alloc ((w.alloc (.cells #[.slice H hs.length ch, .slice Q ats.length c] 29)).alloc (.cells #[.slice T tup.length ct] 22)) (.cells #[.slice none 0 0, .slice none 0 0] 100)
  have b4 := below_alloc (((w.alloc (.cells #[.slice H hs.length ch, .slice Q ats.length c] 29)).alloc (.cells #[.slice T tup.length ct] 22)).alloc (.cells #[.slice none 0 0, .slice none 0 0] 100)) (.cells #[.bool false] 4)
  have X0 : Box w0 w.heap.size #[.slice H hs.length ch, .slice Q ats.length c] 29 := by rw [hw0]; exact (((Box.new w _ _).step b2).step b3).step b4
  have T0 : Box w0 (w.heap.size + 1) #[.slice T tup.length ct] 22 := by
    have := Box.new (w.alloc (.cells #[.slice H hs.length ch, .slice Q ats.length c] 29)) #[.slice T tup.length ct] 22
    rw [al_size] at this
    rw [hw0]; exact (this.step b3).step b4
  have R0 : Box w0 (w.heap.size + 1 + 1) #[.slice none 0 0, .slice none 0 0] 100 := by
    have := Box.new ((w.alloc (.cells #[.slice H hs.length ch, .slice Q ats.length c] 29)).alloc (.cells #[.slice T tup.length ct] 22)) #[.slice none 0 0, .slice none 0 0] 100
    rw [al_size, al_size] at this
    rw [hw0]; exact this.step b4
  have O0 : Box w0 (w.heap.size + 1 + 1 + 1) #[.bool false] 4 := by
    have := Box.new (((w.alloc (.cells #[.slice H hs.length ch, .slice Q ats.length c] 29)).alloc (.cells #[.slice T tup.length ct] 22)).alloc (.cells #[.slice none 0 0, .slice none 0 0] 100)) #[.bool false] 4
    rw [al_size, al_size, al_size] at this
    rw [hw0]; exact this
  have S0 : w0.heap.size = w.heap.size + 1 + 1 + 1 + 1 := by rw [hw0, al_size, al_size, al_size, al_size]
  have BB : Below w.heap.size w w0 := by rw [hw0]; exact step (step (step b1 b2) b3) b4
  have E0 := Lib.hid hw0
  clear b1 b2 b3 b4 hw0
  have b5 := below_alloc w0 (.cells #[.slice H hs.length ch, .slice T tup.length ct] 100)
  have K1 := Box.new w0 #[.slice H hs.length ch, .slice T tup.length ct] 100
  obtain ⟨w1, hw1⟩ : ∃ W, W = w0.alloc (.cells #[.slice H hs.length ch, .slice T tup.length ct] 100) := ⟨_, rfl⟩
  have E1 := Lib.hid hw1
  have S1 : w1.heap.size = w0.heap.size + 1 := by rw [hw1, al_size]
  rw [← hw1] at b5 K1
  rw [S0] at K1
  have X1 := Lib.hid (X0.step b5)
  have T1 := Lib.hid (T0.step b5)
  have R1 := Lib.hid (R0.step b5)
  have O1 := Lib.hid (O0.step b5)
  have KB := Lib.hid K1
  have B1 := Lib.hid (step BB b5)
  have HH := Lib.hid hH
  have HQ := Lib.hid hQ
  have HF := Lib.hid hF
  have HT := Lib.hid hT
  have QO := Lib.hid hq
  have FD := Lib.hid hfd
  have BO := Lib.hid hBO
  have HC := Lib.hid hc
  have HW := Lib.hid hwf
  have GD := Lib.hid hgd
  have HL := Lib.hid hl
  have XT := Lib.hid fun (W : World) (hW : Below w1.heap.size w1 W) => impl_TupleOf H Q H T ch c ch ct hs ats hs tup (by omega) (by omega) (by omega) W (hH.step (step B1.out hW)) (hH.step (step B1.out hW)) (hT.step (step B1.out hW))
  have x00 := X0.cell 0
  have t00 := T0.cell 0
  have x0 := X1.out.cell 0
  have x1 := X1.out.cell 1
  have t0 := T1.out.cell 0
  have k0 := KB.out.cell 0
  have k1 := KB.out.cell 1
  simp only [List.getElem?_toArray, List.getElem?_cons_zero, List.getElem?_cons_succ] at x00 t00 x0 x1 t0 k0 k1
  have xl1 := X1.out.lt
  have tl1 := T1.out.lt
  have kl1 := KB.out.lt
  have S0a : w.heap.size + 4 ≤ w0.heap.size := by omega
  have S0b : w0.heap.size ≤ w.heap.size + 4 := by omega
  have S1a : w0.heap.size + 1 ≤ w1.heap.size := by omega
  have S1b : w1.heap.size ≤ w0.heap.size + 1 := by omega
  clear S0 S1
  clear hH hQ hF hT hq hfd hBO hc X0 T0 R0 O0 K1 b5 BB hw1 hwf hgd hl
  refine (callsIn_wide (n := 4)).1 ?_
  refine callsIn_of_wp_marks Tryz.func93 rfl trivial ?_ rfl
  simp only [Tryz.ntmps93, List.size_toArray, List.length_cons, List.length_nil, Nat.reduceAdd, Nat.reduceSub, Array.replicate_succ, Array.replicate_zero, List.push_toArray, List.append_toArray, List.nil_append, List.cons_append]
  refine wpIn_wide.2 ?_
  go_upto_region 2 with fail
  rw [← E0.out, ← E1.out]
  go_region_held3 (fun w' => w'.cell? ⟨w.heap.size, 0, none⟩ = some (.slice H hs.length ch) ∧ w'.cell? ⟨w.heap.size, 1, none⟩ = some (.slice Q ats.length c) ∧ w'.cell? ⟨w.heap.size + 1, 0, none⟩ = some (.slice T tup.length ct) ∧ w'.cell? ⟨w.heap.size + 1 + 1 + 1 + 1, 0, none⟩ = some (.slice H hs.length ch) ∧ w'.cell? ⟨w.heap.size + 1 + 1 + 1 + 1, 1, none⟩ = some (.slice T tup.length ct))
    (first
      | go_keep
      | (go_split_ands; refine ⟨?_, ?_, ?_, ?_, ?_⟩ <;> (rw [d2.cell (by (try simp) <;> omega)]; assumption))
      | (go_split_ands; refine ⟨?_, ?_, ?_, ?_, ?_⟩ <;> (rw [d3.cell (by (try simp) <;> omega)]; assumption)))
    (first
      | (go_at_call 94
         refine (XT.out _ (by first | exact Below.refl _ _ | exact below_drew _)).mono ?_
         rintro e u2 ⟨v2, rfl, o2, d2⟩
         obtain ⟨A2, c2, rfl⟩ := ownsRow_form o2
         have bb2 := (by first | exact d2 | exact und d2 | exact undN d2 : Below w1.heap.size w1 u2)
         have R2 := Lib.hid (show RI u2 A2 (tupV hs tup hs) from (ints_own o2 (Nat.le_refl _)).mono (Nat.zero_le _) (Nat.le_refl _))
         have s2 := bb2.size
         have B2 := Lib.hid bb2
         clear o2 bb2)
      | (go_at_call 108
         refine (sEqual_any 0 _ 0 _ A2 T c2 ct (tupV hs tup hs) tup (by rw [tupV_len]; omega) (by omega) _ (by first | exact R2.out | exact R2.out.step (below_drew _)) (by first | exact HT.out.step (step B1.out B2.out) | exact (HT.out.step (step B1.out B2.out)).step (below_drew _))).mono ?_
         rintro e u3 ⟨he, d3⟩
         rw [decide_eq_true HC.out] at he
         subst he
         have B3 := Lib.hid (step B2.out (by first | exact d3 | exact und d3 | exact undN d3 : Below u2.heap.size u2 u3))
         have s3 := B3.out.size))
  clear d2 d3 x00 t00 x0 x1 t0 k0 k1 R2
  have X3 := Lib.hid (X1.out.step B3.out)
  have T3 := Lib.hid (T1.out.step B3.out)
  have R3 := Lib.hid (R1.out.step B3.out)
  have O3 := Lib.hid (O1.out.step B3.out)
  have K3 := Lib.hid (KB.out.step B3.out)
  have D3 := Lib.hid (step B1.out B3.out)
  have x0 := X3.out.cell 0
  have x1 := X3.out.cell 1
  have k0 := K3.out.cell 0
  have k1 := K3.out.cell 1
  simp only [List.getElem?_toArray, List.getElem?_cons_zero, List.getElem?_cons_succ] at x0 x1 k0 k1
  go_wp2_with fail
  refine (matchingsOf_any H Q F H T ch c cf ch ct hs.length ats.length fs.length hs.length tup.length u3).mono ?_
  rintro e w4 ⟨rfl, d4, s4, bq4, bf4, bk4⟩
  have D4 := Lib.hid (step D3.out d4)
  have X4 := Lib.hid (X3.out.step d4)
  have T4 := Lib.hid (T3.out.step d4)
  have R4 := Lib.hid (R3.out.step d4)
  have O4 := Lib.hid (O3.out.step d4)
  have SQ := Lib.hid (matchings_from w.heap.size (u3.heap.size + 1 + 1) u3.heap.size (u3.heap.size + 1) H Q F ch c cf hs ats fs (ddN hs tup hs.length) GD.out H T ch ct hs.length tup.length QO.out hf24 FD.out w4 D4.out.size (HQ.out.keep fun b _ hb => D4.out.block b hb) (HF.out.keep fun b _ hb => D4.out.block b hb) bk4 bq4 bf4
    (fun W hW => start_dd H T ch ct hs tup HW.out.1 HW.out.2 HL.out (by omega) W (HH.out.step (step D4.out hW)) (HT.out.step (step D4.out hW))))
  have sw4 := D4.out.size
  clear d4 bq4 bf4 bk4 x0 x1 k0 k1
  obtain ⟨p0, hp0⟩ : ∃ p, p = ddN hs tup hs.length := ⟨_, rfl⟩
  rw [← hp0] at BO GD SQ
  have EP := Lib.hid hp0
  clear hp0
  go_wp2
  refine (wpIn_wide (n := 4)).1 ?_
  refine wpIn_rangeM (F := Fence.wide) (n := 4) rfl (by omega) (gf := 143) (lb := #[.pointer (some ⟨u3.heap.size + 1 + 1, 0, none⟩), .pointer (some ⟨u3.heap.size, 0, none⟩), .pointer (some ⟨u3.heap.size + 1, 0, none⟩)]) rfl trivial (enters_of Tryz.func143 (by kernel_rfl) rfl) SQ.out
    (by rintro b (h | rfl | rfl | rfl) <;> omega) (fun b => b = w.heap.size + 1 + 1 ∨ b = w.heap.size + 1 + 1 + 1) (by rintro b (rfl | rfl) <;> exact ⟨by rintro (h | h | h | h) <;> omega, by omega⟩) (fun _ => rfl)
    (fun B x A C h hs hk => ⟨h.1.keepB hk, h.2⟩)
    (fun (pre : List (Nat × PL)) W => pre = [] ∧ Turns (fun b => b = w.heap.size + 1 + 1 ∨ b = w.heap.size + 1 + 1 + 1) w4 W ∧ Box W (w.heap.size + 1 + 1) #[.slice none 0 0, .slice none 0 0] 100 ∧ Box W (w.heap.size + 1 + 1 + 1) #[.bool false] 4)
    (fun cc (pre : List (Nat × PL)) W => cc = .ret ∧ enum fs ats p0 ≠ [] ∧ (∃ V1 n1 k1 V2 n2 k2, Box W (w.heap.size + 1 + 1) #[.slice V1 n1 k1, .slice V2 n2 k2] 100) ∧ Box W (w.heap.size + 1 + 1 + 1) #[.bool true] 4 ∧ Turns (fun b => b = w.heap.size + 1 + 1 ∨ b = w.heap.size + 1 + 1 + 1) w4 W)
    (fun s A C h hb => ⟨h.1, ⟨hb.os.trans h.2.1.os, hb.tape.trans h.2.1.tape, hb.output.trans h.2.1.output, Nat.le_trans h.2.1.size hb.size, fun b hb' hn => (hb.block b hb').trans (h.2.1.block b hb' hn)⟩, (hb.block _ (by omega)).trans h.2.2.1, (hb.block _ (by omega)).trans h.2.2.2⟩)
    (fun cc s A C h hb => by
      obtain ⟨h1, h2, ⟨V1, n1, k1, V2, n2, k2, h3⟩, h4, h5⟩ := h
      exact ⟨h1, h2, ⟨V1, n1, k1, V2, n2, k2, (hb.block _ (by omega)).trans h3⟩, (hb.block _ (by omega)).trans h4, ⟨hb.os.trans h5.os, hb.tape.trans h5.tape, hb.output.trans h5.output, Nat.le_trans h5.size hb.size, fun b hb' hn => (hb.block b hb').trans (h5.block b hb' hn)⟩⟩)
    ⟨rfl, Turns.refl _ _, R4.out, O4.out⟩ ?a1 ?assign ?body ?done ?stop
  case assign =>
    intro l x W K hK
    gi_wp2
    exact hK
  case body =>
    rintro l pre x W ⟨rfl, hT, bR, bO⟩ hsz ⟨hms, hxb⟩ hlen
    have hne : enum fs ats p0 ≠ [] := List.ne_nil_of_mem hxb
    have hmx : Tryz.prog.follows .mixedOrders = true := by kernel_rfl
    have hd1 : 1 ≤ 4 - 1 - 1 := by omega
    have TWb := Lib.hid (show Below w.heap.size w W from D4.out.trans ⟨hT.os, hT.tape, hT.output, hT.size, fun b hb => hT.block b (by omega) (by omega)⟩)
    have xq := Lib.hid (show Box W w.heap.size _ _ from (hT.block _ (by omega) (by omega)).trans X4.out)
    have xt := Lib.hid (show Box W (w.heap.size + 1) _ _ from (hT.block _ (by omega) (by omega)).trans T4.out)
    have XB := Lib.hid (BO.out W (w4.heap.size + 2) x.1 x.2 hsz hms hxb (HQ.out.step TWb.out))
    have HTW := Lib.hid (HT.out.step TWb.out)
    have HHW := Lib.hid (HH.out.step TWb.out)
    have BRW := Lib.hid bR
    have BOW := Lib.hid bO
    have q0 := xq.out.cell 0
    have q1 := xq.out.cell 1
    simp only [List.getElem?_toArray, List.getElem?_cons_zero, List.getElem?_cons_succ] at q0 q1
    clear hms bR bO
    gi_wp2_with (refine ⟨trivial, ?_⟩; gi_at_call 132; refine (CallsIn.inRound l ((callsIn_wide (n := 1)).2 XB.out)).mono ?_; rintro e u5 ⟨X5, Y5, cx5, cy5, us, vs, rfl, rx, ry, lu, lv, htup, d5⟩)
    have b6 := below_alloc u5 (.cells #[.slice X5 us.length cx5, .slice Y5 vs.length cy5] 100)
    have xb := Box.new u5 #[.slice X5 us.length cx5, .slice Y5 vs.length cy5] 100
    have sB := d5.size
    obtain ⟨W6, hW6⟩ : ∃ W, W = u5.alloc (.cells #[.slice X5 us.length cx5, .slice Y5 vs.length cy5] 100) := ⟨_, rfl⟩
    rw [← hW6] at b6 xb ⊢
    have D6 := Lib.hid (step d5 b6)
    have XQ6 := Lib.hid (xq.out.step D6.out)
    have XT6 := Lib.hid (xt.out.step D6.out)
    have XB6 := Lib.hid xb
    have BR6 := Lib.hid (BRW.out.step D6.out)
    have BO6 := Lib.hid (BOW.out.step D6.out)
    have TU := Lib.hid fun (U : World) (hU : Below W6.heap.size W6 U) => impl_TupleOf H Q X5 Y5 ch c cx5 cy5 hs ats us vs (by omega) lu lv U ((HHW.out.step D6.out).step hU) ((rx.step b6).step hU) ((ry.step b6).step hU)
    have HTP := Lib.hid htup
    have xl6 := XQ6.out.lt
    have tl6 := XT6.out.lt
    have bl6 := XB6.out.lt
    have q0 := XQ6.out.cell 0
    have q1 := XQ6.out.cell 1
    have t0 := XT6.out.cell 0
    have k0 := XB6.out.cell 0
    have k1 := XB6.out.cell 1
    simp only [List.getElem?_toArray, List.getElem?_cons_zero, List.getElem?_cons_succ] at q0 q1 t0 k0 k1
    clear d5 b6 xb hW6 rx ry htup
    gi_region_with_o (first
      | (refine ⟨trivial, ?_⟩; gi_at_call 94; refine (CallsIn.inRound l ((callsIn_wide (n := 1)).2 (TU.out _ (by first | exact Below.refl _ _ | exact below_drew _)))).mono ?_; rintro e u7 ⟨v7, rfl, o7, d7⟩
         obtain ⟨A7, c7, rfl⟩ := ownsRow_form o7
         have b7 := Lib.hid (show Below W6.heap.size W6 u7 by first | exact d7 | exact und d7 | exact undN d7)
         have R7 := Lib.hid (show RI u7 A7 (tupV us vs hs) from (ints_own o7 (Nat.le_refl _)).mono (Nat.zero_le _) (Nat.le_refl _))
         have t07 := (b7.out.cell (p := ⟨w.heap.size + 1, 0, none⟩) (by (try simp) <;> omega)).trans t0
         have s7 := b7.out.size
         clear o7 d7)
      | (refine ⟨trivial, ?_⟩; gi_at_call 108; refine (CallsIn.inRound l ((callsIn_wide (n := 1)).2 (sEqual_any 0 _ 0 _ A7 T c7 ct (tupV us vs hs) tup (by rw [tupV_len]; omega) (by omega) _ (by first | exact R7.out | exact R7.out.step (below_drew _)) (by first | exact (HTW.out.step D6.out).step b7.out | exact ((HTW.out.step D6.out).step b7.out).step (below_drew _))))).mono ?_; rintro e u8 ⟨he, d8⟩
         rw [decide_eq_true HTP.out] at he
         subst he
         have b8 := Lib.hid (show Below W6.heap.size W6 u8 from step b7.out (by first | exact d8 | exact und d8 | exact undN d8))
         have kk0 := (b8.out.cell (p := ⟨u5.heap.size, 0, none⟩) (by (try simp) <;> omega)).trans k0
         have kk1 := (b8.out.cell (p := ⟨u5.heap.size, 1, none⟩) (by (try simp) <;> omega)).trans k1
         have BR8 := Lib.hid (BR6.out.step b8.out)
         have BO8 := Lib.hid (BO6.out.step b8.out)
         have y0 := BR8.out.cell 0
         have y1 := BR8.out.cell 1
         have y2 := BR8.out.frozen 0
         have y3 := BR8.out.frozen 1
         have o0 := BO8.out.cell 0
         have o1 := BO8.out.frozen 0
         have s8 := b8.out.size
         simp only [List.getElem?_toArray, List.getElem?_cons_zero, List.getElem?_cons_succ] at y0 y1 o0
         clear d8))
    all_goals
      gi_wp2
    all_goals
      have s1 := (BR8.out.set 0 (.slice X5 us.length cx5)).set 1 (.slice Y5 vs.length cy5)
      have s3 := s1.set_other (p := ⟨w.heap.size + 1 + 1 + 1, 0, none⟩) (u := .bool true) (by (try simp) <;> omega)
      have r1 := ((BO8.out.set_other (p := ⟨w.heap.size + 1 + 1, 0, none⟩) (u := .slice X5 us.length cx5) (by (try simp) <;> omega)).set_other (p := ⟨w.heap.size + 1 + 1, 1, none⟩) (u := .slice Y5 vs.length cy5) (by (try simp) <;> omega)).set 0 (.bool true)
      have TWF := (((Turns.of_below (M := fun b => b = w.heap.size + 1 + 1 ∨ b = w.heap.size + 1 + 1 + 1) (step D6.out b8.out)).setC ⟨w.heap.size + 1 + 1, 0, none⟩ (.slice X5 us.length cx5) (.inl rfl)).setC ⟨w.heap.size + 1 + 1, 1, none⟩ (.slice Y5 vs.length cy5) (.inl rfl)).setC ⟨w.heap.size + 1 + 1 + 1, 0, none⟩ (.bool true) (.inr rfl)
      exact ⟨TWF, rfl, hne, ⟨_, _, _, _, _, _, by simpa using s3⟩, by simpa using r1, hT.trans TWF⟩
  case done =>
    rintro D xs W hD ⟨g, rfl⟩ ⟨hnil, hT, bR, bO⟩ hK
    have EN : enum fs ats p0 = [] := by simpa using hnil
    have EF := Lib.hid (show decide (enum fs ats p0 ≠ []) = false by simp [EN])
    have TW := Lib.hid (show Below w.heap.size w W from D4.out.trans ⟨hT.os, hT.tape, hT.output, hT.size, fun b hb => hT.block b (by omega) (by omega)⟩)
    have HKD := Lib.hid hK
    have hDW := (Array.getElem?_eq_some_iff.1 hK).1
    have y0 := bR.cell 0
    have y1 := bR.cell 1
    have y2 := bR.frozen 0
    have y3 := bR.frozen 1
    have o0 := bO.cell 0
    have o1 := bO.frozen 0
    simp only [List.getElem?_toArray, List.getElem?_cons_zero, List.getElem?_cons_succ] at y0 y1 o0
    clear hnil EN hT hK
    go_wp2
    have s1 := bR.set 0 (.slice none 0 0)
    have s2 := s1.set 1 (.slice none 0 0)
    have s3 := s2.set_other (p := ⟨w.heap.size + 1 + 1 + 1, 0, none⟩) (u := .bool false) (by (try simp) <;> omega)
    have r1 := ((bO.set_other (p := ⟨w.heap.size + 1 + 1, 0, none⟩) (u := .slice none 0 0) (by (try simp) <;> omega)).set_other (p := ⟨w.heap.size + 1 + 1, 1, none⟩) (u := .slice none 0 0) (by (try simp) <;> omega)).set 0 (.bool false)
    have bS := Below.setCell (p := ⟨w.heap.size + 1 + 1 + 1, 0, none⟩) (Below.setCell (p := ⟨w.heap.size + 1 + 1, 1, none⟩) (Below.setCell (p := ⟨w.heap.size + 1 + 1, 0, none⟩) TW.out (by (try simp) <;> omega) (.slice none 0 0)) (by (try simp) <;> omega) (.slice none 0 0)) (by (try simp) <;> omega) (.bool false)
    have K5 := (Below.heap_setCell ((W.setCell ⟨w.heap.size + 1 + 1, 0, none⟩ (.slice none 0 0)).setCell ⟨w.heap.size + 1 + 1, 1, none⟩ (.slice none 0 0)) ⟨w.heap.size + 1 + 1 + 1, 0, none⟩ (.bool false) D (by (try simp) <;> omega)).trans ((Below.heap_setCell (W.setCell ⟨w.heap.size + 1 + 1, 0, none⟩ (.slice none 0 0)) ⟨w.heap.size + 1 + 1, 1, none⟩ (.slice none 0 0) D (by (try simp) <;> omega)).trans ((Below.heap_setCell W ⟨w.heap.size + 1 + 1, 0, none⟩ (.slice none 0 0) D (by (try simp) <;> omega)).trans HKD.out))
    obtain ⟨WF, hWF⟩ : ∃ WF, WF = ((W.setCell ⟨w.heap.size + 1 + 1, 0, none⟩ (.slice none 0 0)).setCell ⟨w.heap.size + 1 + 1, 1, none⟩ (.slice none 0 0)).setCell ⟨w.heap.size + 1 + 1 + 1, 0, none⟩ (.bool false) := ⟨_, rfl⟩
    rw [← hWF] at s3 r1 bS K5 ⊢
    have zR : Box (WF.putObj D (.deferred none)) (w.heap.size + 1 + 1) _ _ := (World.putObj_heap_other (by omega)).trans s3
    have zO : Box (WF.putObj D (.deferred none)) (w.heap.size + 1 + 1 + 1) _ _ := (World.putObj_heap_other (by omega)).trans r1
    have z0 := zR.cell 0
    have z1 := zR.cell 1
    have z2 := zO.cell 0
    simp at z0 z1 z2
    refine ⟨by simp, .inl ⟨_, _, rfl, run_takeDeferred K5, ?_⟩⟩
    refine ⟨.tuple #[.agg #[.slice none 0 0, .slice none 0 0], .bool false], by simp [results, Tryz.results93, go_sem, z0, z1, z2], ?_⟩
    exact ⟨_, _, _, _, _, _, by rw [← EP.out, EF.out], bS.trans (below_put WF D _ (.deferred none) (by omega) K5)⟩
  case stop =>
    rintro D cc pre W hD _ ⟨rfl, hne, ⟨V1, n1, k1, V2, n2, k2, bR⟩, bO, hT⟩ hK
    have ET := Lib.hid (show decide (enum fs ats p0 ≠ []) = true by simp [hne])
    have TW := Lib.hid (show Below w.heap.size w W from D4.out.trans ⟨hT.os, hT.tape, hT.output, hT.size, fun b hb => hT.block b (by omega) (by omega)⟩)
    have y0 := bR.cell 0
    have y1 := bR.cell 1
    have o0 := bO.cell 0
    simp only [List.getElem?_toArray, List.getElem?_cons_zero, List.getElem?_cons_succ] at y0 y1 o0
    gi_wp2
    have hDW := (Array.getElem?_eq_some_iff.1 hK).1
    have zR : Box (W.putObj D (.deferred none)) (w.heap.size + 1 + 1) _ _ := (World.putObj_heap_other (by omega)).trans bR
    have zO : Box (W.putObj D (.deferred none)) (w.heap.size + 1 + 1 + 1) _ _ := (World.putObj_heap_other (by omega)).trans bO
    have z0 := zR.cell 0
    have z1 := zR.cell 1
    have z2 := zO.cell 0
    simp only [List.getElem?_toArray, List.getElem?_cons_zero, List.getElem?_cons_succ] at z0 z1 z2
    refine ⟨by simp, .inl ⟨_, _, rfl, run_takeDeferred hK, ?_⟩⟩
    refine ⟨.tuple #[.agg #[.slice V1 n1 k1, .slice V2 n2 k2], .bool true], by simp [results, Tryz.results93, go_sem, z0, z1, z2], ?_⟩
    exact ⟨_, _, _, _, _, _, by rw [← EP.out, ET.out], TW.out.trans (below_put W D _ (.deferred none) (by omega) hK)⟩
end Go.Proofs.YtimlpdcambmcjaaGreat
