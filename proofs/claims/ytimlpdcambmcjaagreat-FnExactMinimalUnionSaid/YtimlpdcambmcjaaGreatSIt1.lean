/- The search for matchings as an iterator: its contract. Conditions: none beyond each theorem's own. -/
import Derived.Test.YtimlpdcambmcjaaGreatS22
import Derived.Test.YtimlpdcambmcjaaGreatSRng
import Derived.Test.YtimlpdcambmcjaaGreatSScp
import Derived.RangeFuncCalls
import Derived.OwnWalkIn
import Derived.TacticsInMore
import Derived.WalkMore

namespace Go.Proofs.YtimlpdcambmcjaaGreat
open Go.ChangeShapes Go.WideShapes Go.ChangeAt Go.RowKit Go.Sort
set_option linter.unusedVariables false
set_option linter.unusedSimpArgs false

/-- The state of the search: the matching's block, the choices, the matching, what has come. -/
abbrev SI := Nat × CL × PL × List PL
/-- What holds of the world between the search's steps. -/
structure ItI (B0 base qb fb : Nat) (H Q F : Option Addr) (ch c cf : Nat) (hs : List Int) (ats fs : FL) (J : List (Nat × PL) → World → Prop) (A : Option Addr) (cap : Nat) (s : SI) (w : World) : Prop where
  z : ZN w base A cap (stL s.2.1)
  m : MS w base s.1 ([], []) s.2.2.1 s.2.2.1.1
  gd : Gd s.2.2.1
  wf : WfC fs ats s.2.1 s.2.2.1
  j : J (s.2.2.2.map (Prod.mk s.1)) w
  bq : Box w qb #[.slice H hs.length ch, .slice Q ats.length c] 29
  bf : Box w fb #[.slice F fs.length cf] 46
  q : Facts w 0 B0 Q ats
  f : Facts w 0 B0 F fs
  sz : base ≤ w.heap.size
/-- What holds where it goes forward, and where it goes back. -/
def JmpF (B0 base qb fb : Nat) (H Q F : Option Addr) (ch c cf : Nat) (hs : List Int) (ats fs : FL) (J : List (Nat × PL) → World → Prop) (l kb : Nat) (s : SI) (a : Act) (w : World) : Prop :=
  s.2.1.length ≤ ats.length ∧ s.2.2.2 ++ remC fs ats ((0, s.2.2.1) :: s.2.1) = bnds fs ats ∧ ∃ (A : Option Addr) (cap : Nat), ItI B0 base qb fb H Q F ch c cf hs ats fs J A cap s w ∧ ∃ x4 x7 x8 x9 x10 x11 x12 x13 x14 x15 x16 x17 x18 x19 x20 x21 x22 x23 x24 x25 x26 x27 x28 x29 x30 x31 x32 x33 x34 x35 x36 x37 x38 x39 x40 x41 x42 x43 x44 x45 x46 x47 x48 x49 x50 x51 x52 x53 x54 x55 x56 x57 x58 x59 x60 x61 x62 x63 x64 x65 x66 x67 x68 x69 x70 x71 x72 x73 x74 x75 x76 x77 x78 : Value, a = { tmps := #[.func (.yield l) #[] #[], .pointer (some ⟨kb, 0, none⟩), .pointer (some ⟨qb, 0, none⟩), .pointer (some ⟨fb, 0, none⟩), x4, .pointer (some ⟨s.1, 0, none⟩), .slice A s.2.1.length cap, x7, x8, x9, x10, x11, x12, x13, x14, x15, x16, x17, x18, x19, x20, x21, x22, x23, x24, x25, x26, x27, x28, x29, x30, x31, x32, x33, x34, x35, x36, x37, x38, x39, x40, x41, x42, x43, x44, x45, x46, x47, x48, x49, x50, x51, x52, x53, x54, x55, x56, x57, x58, x59, x60, x61, x62, x63, x64, x65, x66, x67, x68, x69, x70, x71, x72, x73, x74, x75, x76, x77, x78], defers := [] }
def JmpB (B0 base qb fb : Nat) (H Q F : Option Addr) (ch c cf : Nat) (hs : List Int) (ats fs : FL) (J : List (Nat × PL) → World → Prop) (l kb : Nat) (s : SI) (a : Act) (w : World) : Prop :=
  s.2.1.length ≤ ats.length ∧ s.2.2.2 ++ remC fs ats s.2.1 = bnds fs ats ∧ ∃ (A : Option Addr) (cap : Nat), ItI B0 base qb fb H Q F ch c cf hs ats fs J A cap s w ∧ ∃ x4 x7 x8 x9 x10 x11 x12 x13 x14 x15 x16 x17 x18 x19 x20 x21 x22 x23 x24 x25 x26 x27 x28 x29 x30 x31 x32 x33 x34 x35 x36 x37 x38 x39 x40 x41 x42 x43 x44 x45 x46 x47 x48 x49 x50 x51 x52 x53 x54 x55 x56 x57 x58 x59 x60 x61 x62 x63 x64 x65 x66 x67 x68 x69 x70 x71 x72 x73 x74 x75 x76 x77 x78 : Value, a = { tmps := #[.func (.yield l) #[] #[], .pointer (some ⟨kb, 0, none⟩), .pointer (some ⟨qb, 0, none⟩), .pointer (some ⟨fb, 0, none⟩), x4, .pointer (some ⟨s.1, 0, none⟩), .slice A s.2.1.length cap, x7, x8, x9, x10, x11, x12, x13, x14, x15, x16, x17, x18, x19, x20, x21, x22, x23, x24, x25, x26, x27, x28, x29, x30, x31, x32, x33, x34, x35, x36, x37, x38, x39, x40, x41, x42, x43, x44, x45, x46, x47, x48, x49, x50, x51, x52, x53, x54, x55, x56, x57, x58, x59, x60, x61, x62, x63, x64, x65, x66, x67, x68, x69, x70, x71, x72, x73, x74, x75, x76, x77, x78], defers := [] }

set_option maxRecDepth 100000 in
set_option maxHeartbeats 16000000 in
theorem matchings_seq (B0 kb qb fb : Nat) (H Q F : Option Addr) (ch c cf : Nat) (hs : List Int) (ats fs : FL) (hq : QOk hs ats) (hf24 : fs.length ≤ 24) (hfd : ∀ f ∈ fs, allB 0 9 f.2 = true ∧ f.2.length ≤ 3)
    (w : World) (hB2 : B0 ≤ w.heap.size) (hQ : Facts w 0 B0 Q ats) (hF : Facts w 0 B0 F fs)
    (hbk : Box w kb #[.slice none 0 0, .slice none 0 0] 100) (hbq : Box w qb #[.slice H hs.length ch, .slice Q ats.length c] 29) (hbf : Box w fb #[.slice F fs.length cf] 46) :
    SeqM Fence.wide 3 Tryz.prog 143 #[.pointer (some ⟨kb, 0, none⟩), .pointer (some ⟨qb, 0, none⟩), .pointer (some ⟨fb, 0, none⟩)] (fun x : Nat × PL => #[.pointer (some ⟨x.1, 0, none⟩)]) (fun b => b < B0 ∨ b = kb ∨ b = qb ∨ b = fb)
      (fun B x W => MS W B x.1 ([], []) x.2 x.2.1 ∧ x.2 ∈ bnds fs ats) (fun xs => ∃ g, xs = (bnds fs ats).map (Prod.mk g)) (fun _ => True) (bnds fs ats).length w := by
  intro l M J Jx W hW hM hJ hJx hY h0
  refine callsIn_of_wp Tryz.func143 rfl trivial ?_ rfl
  simp only [Tryz.ntmps143, List.size_toArray, List.length_cons, List.length_nil, Nat.reduceAdd, Nat.reduceSub, Array.replicate_succ, Array.replicate_zero, List.push_toArray, List.append_toArray, List.nil_append, List.cons_append]
  refine wpIn_wide.2 ?_
  obtain ⟨i0, hi, hz0, hz1, hz2⟩ := info_parts choice_info
  have hKL := hbk.lt
  have hQL := hbq.lt
  have hFL := hbf.lt
  have BK := Lib.hid (show Box W kb _ _ from (hW.block kb hKL).trans hbk)
  have BQ := Lib.hid (show Box W qb _ _ from (hW.block qb hQL).trans hbq)
  have BF := Lib.hid (show Box W fb _ _ from (hW.block fb hFL).trans hbf)
  have hws := hW.size
  have HQ := Lib.hid (hQ.keep (w' := W) fun b _ h2 => hW.block b (by omega))
  have HF := Lib.hid (hF.keep (w' := W) fun b _ h2 => hW.block b (by omega))
  have QO := Lib.hid hq
  have FD := Lib.hid hfd
  have HM := Lib.hid hM
  have HJ := Lib.hid hJ
  have HJx := Lib.hid hJx
  have HY := Lib.hid hY
  have HJ0 := Lib.hid h0
  clear hbk hbq hbf hQ hF hq hfd hM hJ hJx hY h0
  refine wp_scope_two (l1 := 1) (l0 := 0) (by decide) (JmpF B0 W.heap.size qb fb H Q F ch c cf hs ats fs J l kb) (JmpB B0 W.heap.size qb fb H Q F ch c cf hs ats fs J l kb) (fun s => 2 * wkC fs ats ((0, s.2.2.1) :: s.2.1) + 1) (fun s => 2 * wkC fs ats s.2.1) rfl rfl ?first ?fwd ?bck
  case first =>
    have k0 := BK.out.cell 0
    have k1 := BK.out.cell 1
    simp only [List.getElem?_toArray, List.getElem?_cons_zero, List.getElem?_cons_succ] at k0 k1
    go_wp2_with fail
    refine (start_any none none 0 0 [] [] (by simp) (by simp) rfl (by simp) _ (fun h => absurd rfl h) (fun h => absurd rfl h)).mono ?_
    rintro e w1 ⟨g, rfl, hms, d1⟩
    have I1 := Lib.hid (show ItI B0 W.heap.size qb fb H Q F ch c cf hs ats fs J none 0 (g, [], ([], []), []) w1 from
      ⟨.inl ⟨rfl, rfl, rfl⟩, hms, gd_nil, trivial, HJ.out _ _ _ HJ0.out d1, BQ.out.step d1, BF.out.step d1, HQ.out.keep fun b _ h2 => d1.block b (by omega), HF.out.keep fun b _ h2 => d1.block b (by omega), d1.size⟩)
    have REM := Lib.hid (show [] ++ remC fs ats ((0, ([], [])) :: []) = bnds fs ats by rw [List.nil_append]; exact remC_start fs ats)
    go_wp2
    exact ⟨(g, [], ([], []), []), Nat.zero_le _, REM.out, none, 0, I1.out, _, _, _, _, _, _, _, _, _, _, _, _, _, _, _, _, _, _, _, _, _, _, _, _, _, _, _, _, _, _, _, _, _, _, _, _, _, _, _, _, _, _, _, _, _, _, _, _, _, _, _, _, _, _, _, _, _, _, _, _, _, _, _, _, _, _, _, _, _, _, _, _, _, rfl⟩
  case fwd =>
    rintro ⟨g, st, q, done⟩ a wr ⟨hst, hrem, A, cap, I, x4, x7, x8, x9, x10, x11, x12, x13, x14, x15, x16, x17, x18, x19, x20, x21, x22, x23, x24, x25, x26, x27, x28, x29, x30, x31, x32, x33, x34, x35, x36, x37, x38, x39, x40, x41, x42, x43, x44, x45, x46, x47, x48, x49, x50, x51, x52, x53, x54, x55, x56, x57, x58, x59, x60, x61, x62, x63, x64, x65, x66, x67, x68, x69, x70, x71, x72, x73, x74, x75, x76, x77, x78, rfl⟩
    have II := Lib.hid I
    have RM := Lib.hid hrem
    have HST := Lib.hid hst
    have y1 := I.bq.cell 1
    simp only [List.getElem?_toArray, List.getElem?_cons_zero, List.getElem?_cons_succ] at y1
    clear I hrem hst
    by_cases hd : st.length = ats.length
    · have LF := Lib.hid (remC_leaf fs ats 0 q st hd)
      have hda : ((st.length : Int) == (ats.length : Int)) = true := by simp [hd]
      have HL := Lib.hid (show (done.map (Prod.mk g)).length < (bnds fs ats).length by
        have h := congrArg List.length RM.out
        have h2 := congrArg List.length LF.out.1
        simp only [List.length_append, List.length_cons, List.length_map] at h h2 ⊢
        omega)
      have MB := Lib.hid (show q ∈ bnds fs ats by have h1 := RM.out; exact (remC_mem h1 hd).1)
      clear hd
      obtain ⟨fn, tmps, assign, body, hy, hR⟩ := HY.out (done.map (Prod.mk g)) (g, q) wr II.out.j ⟨II.out.m, MB.out⟩ HL.out
      dsimp only at hy
      refine (wpIn_wide (n := 3)).1 ?_
      gi_wp2
      refine hR.mono ?_
      rintro e W' (⟨rfl, hj, ht⟩ | ⟨rfl, hjx⟩)
      · gi_wp2
        have nq : ¬ M qb := fun h => (HM.out qb h).1 (.inr (.inr (.inl rfl)))
        have nf : ¬ M fb := fun h => (HM.out fb h).1 (.inr (.inr (.inr rfl)))
        have n0 : ∀ b, b < B0 → ¬ M b := fun b hb h => (HM.out b h).1 (.inl hb)
        have nb : ∀ b, W.heap.size ≤ b → ¬ M b := fun b hb h => by have := (HM.out b h).2; omega
        have IW := II.out
        exact wpIn_goto (And.intro rfl ⟨(g, st, q, done ++ [q]), ⟨HST.out, by
            have h1 := RM.out
            have h2 := LF.out.1
            simp only at h1 ⊢
            rw [h2] at h1
            rw [← h1]
            simp, A, cap, ⟨IW.z.keep fun b h1 h2 => ht.block b h2 (nb b h1), IW.m.keepB fun b h1 h2 => ht.block b h2 (nb b h1), IW.gd, IW.wf, by simpa using hj, (ht.block qb IW.bq.lt nq).trans IW.bq, (ht.block fb IW.bf.lt nf).trans IW.bf,
              IW.q.keep fun b _ h2 => ht.block b (by have := IW.sz; omega) (n0 b h2), IW.f.keep fun b _ h2 => ht.block b (by have := IW.sz; omega) (n0 b h2), Nat.le_trans IW.sz ht.size⟩, _, _, _, _, _, _, _, _, _, _, _, _, _, _, _, _, _, _, _, _, _, _, _, _, _, _, _, _, _, _, _, _, _, _, _, _, _, _, _, _, _, _, _, _, _, _, _, _, _, _, _, _, _, _, _, _, _, _, _, _, _, _, _, _, _, _, _, _, _, _, _, _, _, rfl⟩, by have := LF.out.2; simp only at this ⊢; omega⟩)
      · gi_wp2
        dsimp only [jumps]
        refine bodyPost_ret (results_none rfl _ _ _) rfl ?_
        exact ⟨⟨_, rfl⟩, .inr ⟨_, trivial, hjx⟩⟩
    · have hda : ((st.length : Int) == (ats.length : Int)) = false := by simp; omega
      have hdn1 : (stL st).length = st.length := stL_len st
      have hal : ats.length ≤ 4 := QO.out.few.2
      obtain ⟨_, mbq, nq, vq, Dq, hBq, _, hRq, _⟩ := II.out.m
      obtain ⟨Aq, cq, rfl⟩ := ownsRow_form hRq
      have m1 := hBq.cell 1
      simp only [List.getElem?_toArray, List.getElem?_cons_zero, List.getElem?_cons_succ] at m1
      have hql2 := small_gd II.out.gd
      have hsz := II.out.sz
      clear hBq hRq
      go_wp2_with (at_builtin; refine wpList_pushN (A := A) (cap := cap) (l := stL st) (base := W.heap.size) rfl _ _ 151 rfl i0 Tryz.underlying151 hi hz0 hz1 hz2 (by rw [hdn1]; rfl) rfl II.out.z hsz (by rw [hdn1]; have := HST.out; simp only at this; omega) ?_; rw [hdn1]; intro g5 cap5 w5 hz5 hk5 hg5
                   have Z5 := Lib.hid hz5
                   have K5 := Lib.hid hk5
                   have G5 := Lib.hid hg5
                   clear hz5 hk5 hg5)
      have IW := II.out
      have b5 := IW.z.below hsz G5.out
      have nA : ∀ b t cs fr, wr.heap[b]? = some (Obj.cells cs t fr) → t ≠ 156 → A ≠ some ⟨b, 0, none⟩ := fun b t cs fr hb hne e => by
        rcases IW.z with ⟨h1, _⟩ | ⟨k, h1, h2⟩
        · rw [h1] at e; cases e
        · rw [h1] at e
          injection e with e
          injection e with e
          obtain ⟨_, _, h3⟩ := h2.typed
          rw [e, hb] at h3
          injection h3 with h3
          injection h3 with _ h4
          exact hne h4
      exact ⟨g, (0, q) :: st, ⟨q.1, q.2, done, by have h := HST.out; simp only [List.length_cons] at h ⊢; omega, RM.out, some ⟨g5, 0, none⟩, cap5, ⟨.inr ⟨g5, rfl, by rw [stL_cons]; exact Z5.out⟩, IW.z.ms IW.m G5.out, IW.gd, ⟨Pre.refl _, IW.gd, Nat.zero_le _, HST.out, IW.wf⟩, HJ.out _ _ _ IW.j b5,
        (K5.out qb IW.bq.lt (nA qb _ _ _ IW.bq (by decide))).trans IW.bq, (K5.out fb IW.bf.lt (nA fb _ _ _ IW.bf (by decide))).trans IW.bf, IW.q.keep fun b _ h2 => b5.block b (by omega), IW.f.keep fun b _ h2 => b5.block b (by omega), Nat.le_trans hsz b5.size⟩, _, _, _, _, _, _, _, _, _, _, _, _, _, _, _, _, _, _, _, _, _, _, _, _, _, _, _, _, _, _, _, _, _, _, _, _, _, _, _, _, _, _, _, _, _, _, _, _, _, _, _, _, _, _, _, _, _, _, _, _, _, _, _, _, _, _, _, _, _, _, _, _, _, rfl⟩, by first | omega | exact Nat.lt_succ_self _ | (simp only; omega)⟩
  case bck =>
    rintro ⟨g, st0, q0, done0⟩ a wr0 ⟨hst0, hrem0, A0, cap0, I0, x4, x7, x8, x9, x10, x11, x12, x13, x14, x15, x16, x17, x18, x19, x20, x21, x22, x23, x24, x25, x26, x27, x28, x29, x30, x31, x32, x33, x34, x35, x36, x37, x38, x39, x40, x41, x42, x43, x44, x45, x46, x47, x48, x49, x50, x51, x52, x53, x54, x55, x56, x57, x58, x59, x60, x61, x62, x63, x64, x65, x66, x67, x68, x69, x70, x71, x72, x73, x74, x75, x76, x77, x78, rfl⟩
    have II0 := Lib.hid I0
    have RM0 := Lib.hid hrem0
    have HST0 := Lib.hid hst0
    clear I0 hrem0 hst0
    have hal : (ats.length : Int) ≤ 4 := by have := QO.out.few.2; omega
    have hfl : (fs.length : Int) ≤ 24 := by omega
    go_wp2
    go_loopg [6] (wkC fs ats st0) (fun gk cc wr => ∃ (st : CL) (q : PL) (A : Option Addr) (cap m : Nat) (done : List PL), wkC fs ats st = gk ∧ gk ≤ wkC fs ats st0 ∧ m = st.length ∧ cc = .slice A m cap ∧ Hid (ItI B0 W.heap.size qb fb H Q F ch c cf hs ats fs J A cap (g, st, q, done) wr) ∧ Hid (done ++ remC fs ats st = bnds fs ats) ∧ Hid (st.length ≤ ats.length))
    case atStart => exact ⟨st0, q0, A0, cap0, st0.length, done0, rfl, Nat.le_refl _, rfl, rfl, II0, RM0, HST0⟩
    case round =>
      clear II0 RM0
      obtain ⟨st, q, A, cap, m, done, hwk, hle, hm, rfl, hI, hR, hS⟩ := hrel
      rcases st with _ | ⟨⟨n, p⟩, r⟩
      · obtain rfl : m = 0 := hm
        have E := Lib.hid (show done = bnds fs ats by have := hR.out; simpa [remC] using this)
        go_wp2
        dsimp only [jumps]
        go_end0
        exact ⟨⟨_, rfl⟩, .inl ⟨_, ⟨g, rfl⟩, by rw [← E.out]; exact hI.out.j⟩⟩
      · obtain ⟨d, rfl⟩ : ∃ d, m = d + 1 := ⟨r.length, hm⟩
        have hd : d = r.length := by simpa using hm
        have HDD := Lib.hid hd
        have IW := hI.out
        obtain ⟨hPre, hGp, hn, hrl, hWr⟩ := IW.wf
        obtain ⟨gC, rfl, hZC⟩ : ∃ gC, A = some ⟨gC, 0, none⟩ ∧ ZC wr W.heap.size gC cap (stL ((n, p) :: r)) := by
          rcases IW.z with ⟨_, _, h3⟩ | h
          · exact absurd (congrArg List.length h3) (by simp [stL])
          · exact h
        have hn' : (n : Int) ≤ (fs.length : Int) := by omega
        have hn0 : (0 : Int) ≤ (n : Int) := by omega
        have hd5 : d ≤ 4 := by have := QO.out.few.2; omega
        have hdl : (d : Int) < ((d + 1 : Nat) : Int) := by omega
        have hd0 : (0 : Int) ≤ (d : Int) := by omega
        have WR := Lib.hid hWr
        have GP := Lib.hid hGp
        have hcz := hZC.cells (k := d) (a := (n : Int)) (b := (p.1.length : Int)) (by rw [stL_len, List.length_cons]; omega) (by rw [hd]; exact stL_top n p r)
        obtain ⟨c0, c1⟩ := hcz
        have hql : q.1.length ≤ 8 := small_gd IW.gd
        have hpl := small_gd hGp
        have e1 : ([] : List Int).length + p.1.length = p.1.length := by simp
        have e2 : cutP p.1.length q = p := hPre.cut hGp.1
        have e3 : q.1.take p.1.length = p.1 := congrArg Prod.fst e2
        have XFg := Lib.hid (forget_any W.heap.size g ([], []) q q.1 p.1.length hPre.len rfl IW.gd.2.1 (gd_wf IW.gd) (by omega) wr IW.sz IW.m)
        have E1 := Lib.hid e1
        have E2 := Lib.hid e2
        have E3 := Lib.hid e3
        have ZC0 := Lib.hid hZC
        clear hWr hGp hPre e1 e2 e3 hZC IW hd hm
        go_wp2_with fail
        refine XFg.out.mono ?_
        rintro e w2 ⟨rfl, hms2, ht2⟩
        rw [E1.out, E2.out, E3.out] at hms2
        have MS2 := Lib.hid hms2
        have TR2 := Lib.hid ht2
        have ZZ2 := Lib.hid (ZC0.out.trn ht2)
        have BQ2 := Lib.hid (hI.out.bq.trn ht2 (by decide) (by decide))
        have BF2 := Lib.hid (hI.out.bf.trn ht2 (by decide) (by decide))
        have sz2 : W.heap.size ≤ w2.heap.size := Nat.le_trans hI.out.sz ht2.size
        have J2 := Lib.hid (show J (done.map (Prod.mk g)) w2 from HJ.out _ _ _ hI.out.j ⟨ht2.os, ht2.tape, ht2.output, ht2.size, fun b hb => ht2.block b (by have := hI.out.sz; omega) (.inl hb)⟩)
        have Q2 := Lib.hid (hI.out.q.keep (w' := w2) fun b _ h2 => ht2.block b (by have := hI.out.sz; omega) (.inl (by omega)))
        have F2 := Lib.hid (hI.out.f.keep (w' := w2) fun b _ h2 => ht2.block b (by have := hI.out.sz; omega) (.inl (by omega)))
        clear hms2 ht2 c0 c1
        obtain ⟨k0, k1⟩ := ZZ2.out.cells (k := d) (a := (n : Int)) (b := (p.1.length : Int)) (by rw [stL_len, List.length_cons]; have := HDD.out; omega) (by rw [HDD.out]; exact stL_top n p r)
        have kf := ZZ2.out.frozen (d * 2)
        have f0 := BF2.out.cell 0
        have q1 := BQ2.out.cell 1
        simp only [List.getElem?_toArray, List.getElem?_cons_zero, List.getElem?_cons_succ] at f0 q1
        by_cases hnf : n = fs.length
        · have hnf' : ((n : Int) == (fs.length : Int)) = true := by simp [hnf]
          have HRL := HDD.out
          have hrl2 : r.length < ats.length := by have := hS.out; simp only [List.length_cons] at this; omega
          have RE := Lib.hid (remC_end fs ats n p r hrl2 (by omega))
          have ZZ3 := Lib.hid (show ZC w2 W.heap.size gC cap (stL r) by
            have := ZZ2.out.take r.length
            rwa [stL_pop] at this)
          have hdm : (d : Int) ≤ ((d + 1 : Nat) : Int) := by omega
          have hcap : (d : Int) ≤ (cap : Int) := by
            obtain ⟨_, _, _, h3, _⟩ := ZZ2.out
            rw [stL_len, List.length_cons] at h3
            have := HDD.out
            omega
          clear HRL hrl2
          go_wp2
          go_region
          go_wp2
          go_roundg (wkC fs ats r)
          case measure => have := RE.out.2; omega
          case rel => exact ⟨r, p, some ⟨gC, 0, none⟩, cap, d, done, rfl, (by have := RE.out.2; omega), HDD.out, rfl, Lib.hid ⟨.inr ⟨gC, rfl, ZZ3.out⟩, MS2.out, GP.out, WR.out, HJ.out _ _ _ J2.out (Below.refl _ _).drew, BQ2.out, BF2.out, Q2.out, F2.out, sz2⟩, Lib.hid (by rw [← RE.out.1]; exact hR.out), Lib.hid (by have := hS.out; simp only [List.length_cons] at this; omega)⟩
        · have hnf' : ((n : Int) == (fs.length : Int)) = false := by simp; omega
          have hnlt : n < fs.length := by omega
          have hdlt : d < ats.length := by have := hS.out; have := HDD.out; simp only [List.length_cons] at *; omega
          have hgCb : W.heap.size ≤ gC := by obtain ⟨_, h1, _⟩ := ZZ2.out; exact h1
          obtain ⟨tcs, tfr, htyp⟩ := ZZ2.out.typed
          have hgq : qb ≠ gC := by omega
          have hgf : fb ≠ gC := by omega
          have htypd : w2.drew.heap[gC]? = some (Obj.cells tcs 156 tfr) := htyp
          have MS2d := Lib.hid (show MS w2.drew W.heap.size g ([], []) p p.1 from MS2.out)
          have ZZ2d := Lib.hid (show ZC w2.drew W.heap.size gC cap (stL ((n, p) :: r)) from ZZ2.out)
          have BQ2d := Lib.hid (show Box w2.drew qb _ _ from BQ2.out)
          have BF2d := Lib.hid (show Box w2.drew fb _ _ from BF2.out)
          have J2d := Lib.hid (HJ.out _ _ _ J2.out (Below.refl _ _).drew)
          have Q2d := Lib.hid (show Facts w2.drew 0 B0 Q ats from Q2.out)
          have F2d := Lib.hid (show Facts w2.drew 0 B0 F fs from F2.out)
          have MS3 := Lib.hid (MS2d.out.setC (i := d * 2) (u := .int .i64 ((n : Int) + 1)) htypd)
          have ZZ3 := Lib.hid (show ZC (w2.drew.setCell ⟨gC, d * 2, none⟩ (.int .i64 ((n : Int) + 1))) W.heap.size gC cap (stL ((n + 1, p) :: r)) by
            have h1 := ZZ2d.out.set (k := d) (by rw [stL_len, List.length_cons]; have := HDD.out; omega) ((n : Int) + 1)
            have h2 := stL_top n p r
            rw [← HDD.out] at h2
            rw [h2] at h1
            have h3 := stL_set n p r
            rw [← HDD.out] at h3
            rwa [h3] at h1)
          have b3 := Below.setCell (Below.refl W.heap.size w2.drew) (p := ⟨gC, d * 2, none⟩) hgCb (.int .i64 ((n : Int) + 1))
          have J3 := Lib.hid (HJ.out _ _ _ J2d.out b3)
          have BQ3 := Lib.hid (BQ2d.out.set_other (p := ⟨gC, d * 2, none⟩) (u := .int .i64 ((n : Int) + 1)) hgq)
          have BF3 := Lib.hid (BF2d.out.set_other (p := ⟨gC, d * 2, none⟩) (u := .int .i64 ((n : Int) + 1)) hgf)
          have Q3 := Lib.hid (Q2d.out.keep (w' := w2.drew.setCell ⟨gC, d * 2, none⟩ (.int .i64 ((n : Int) + 1))) fun b _ h2 => b3.block b (by omega))
          have F3 := Lib.hid (F2d.out.keep (w' := w2.drew.setCell ⟨gC, d * 2, none⟩ (.int .i64 ((n : Int) + 1))) fun b _ h2 => b3.block b (by omega))
          have k0d : w2.drew.cell? ⟨gC, d * 2, none⟩ = some (.int .i64 n) := k0
          have kfd : w2.drew.frozen? ⟨gC, d * 2, none⟩ = false := kf
          obtain ⟨w3, hw3⟩ : ∃ w3, w3 = w2.drew.setCell ⟨gC, d * 2, none⟩ (.int .i64 ((n : Int) + 1)) := ⟨_, rfl⟩
          have hs3 : w2.heap.size = w3.heap.size := by rw [hw3, set_size]; rfl
          rw [← hw3] at MS3 ZZ3 J3 BQ3 BF3 Q3 F3
          have EW3 := Lib.hid (show w3 = (w2.setCell ⟨gC, d * 2, none⟩ (.int .i64 ((n : Int) + 1))).drew by rw [hw3]; rfl)
          have zq1 := BQ3.out.cell 1
          have zf0 := BF3.out.cell 0
          simp only [List.getElem?_toArray, List.getElem?_cons_zero, List.getElem?_cons_succ] at zq1 zf0
          obtain ⟨z0, z1⟩ := ZZ3.out.cells (k := d) (a := ((n + 1 : Nat) : Int)) (b := (p.1.length : Int)) (by rw [stL_len, List.length_cons]; have := HDD.out; omega) (by rw [HDD.out]; exact stL_top (n + 1) p r)
          have hn1 : ((n + 1 : Nat) : Int) = (n : Int) + 1 := by omega
          rw [hn1] at z0
          clear hn1 b3 htypd
          generalize hfa : ats.getD d (0, []) = a
          generalize hff : fs.getD n (0, []) = f
          obtain ⟨ra, ts⟩ := a
          obtain ⟨rf, vs⟩ := f
          obtain ⟨bA, oA, TA, tA, rfl, _, nA, ea0, ea1, _, _, hTA⟩ := Q3.out.at_ hdlt hfa
          obtain ⟨bF, oF, VF, vF, rfl, _, nF, ef0, ef1, _, _, hVF⟩ := F3.out.at_ hnlt hff
          have hdA : (d : Int) < (ats.length : Int) := by omega
          have hnF : (n : Int) < (fs.length : Int) := by omega
          have hma : (ra, ts) ∈ ats := by rw [← hfa, List.getD_eq_getElem?_getD, List.getElem?_eq_getElem hdlt]; exact List.getElem_mem _
          have hmf : (rf, vs) ∈ fs := by rw [← hff, List.getD_eq_getElem?_getD, List.getElem?_eq_getElem hnlt]; exact List.getElem_mem _
          have hts3 : ts.length ≤ 3 := QO.out.short _ hma
          have hvs3 : vs.length ≤ 3 := (FD.out _ hmf).2
          have VD := Lib.hid (show allB 0 9 vs = true from (FD.out _ hmf).1)
          have hb3 : W.heap.size ≤ w3.heap.size := by omega
          have wr1 : IntKind.i64.wrap (d : Int) = (d : Int) := IntWalk.i64_in _ ⟨by omega, by omega⟩
          have wr2 : IntKind.i64.wrap (n : Int) = (n : Int) := IntWalk.i64_in _ ⟨by omega, by omega⟩
          have XM0 := match_any W.heap.size g ([], []) p p.1 TA VF tA vF ra rf ts vs (fun x hx => by have := allB_mem (QO.out.term _ hma) hx; exact WalkArith.wf_i64 ⟨by omega, by omega⟩) (fun x hx => by have := allB_mem VD.out hx; exact WalkArith.wf_i64 ⟨by omega, by omega⟩) (by omega) (by omega) w3.drew hb3 (hTA.mono (Nat.le_refl _) (by omega)) (hVF.mono (Nat.le_refl _) (by omega)) (show MS w3.drew W.heap.size g ([], []) p p.1 from MS3.out)
          rw [matG_mtF GP.out.1] at XM0
          have XM := Lib.hid XM0
          have HFA := Lib.hid hfa
          have HFF := Lib.hid hff
          clear XM0 hTA hVF hma hmf hfa hff htyp hw3
          go_wp2
          go_region
          go_wp2
          rw [← EW3.out]
          go_region_law (first
            | (refine step_callP3 rfl 146 _ _ _ _ _ _ rfl (.pointer (some ⟨g, 0, none⟩)) (.agg #[.int .i64 ra, .slice TA ts.length tA]) (.agg #[.int .i64 rf, .slice VF vs.length vF]) rfl rfl rfl (by kernel_rfl) (R := fun v w' => ∃ e, e = Ending.returned v ∧ MGOut w3.drew W.heap.size g ([], []) p ts vs (mtF p (ra, ts) (rf, vs)) e w') (by
                 refine XM.out.mono ?_
                 rintro e w' h
                 have h' := h
                 obtain ⟨q2, ads2, h1, _⟩ := h
                 rcases h1 with ⟨_, rfl, _⟩ | ⟨_, rfl⟩ <;> exact ⟨_, rfl, _, rfl, h'⟩) ?_
               rintro v4 w4 ⟨e4, he4, q2, ads2, hr4, hms4, ht4⟩
               have R4 := Lib.hid hr4
               have MM4 := Lib.hid hms4
               have TT4 := Lib.hid (show Trn W.heap.size w3 w4 from ⟨ht4.os, ht4.tape, ht4.output, ht4.size, ht4.block⟩)
               have EV4 := Lib.hid he4
               clear hr4 hms4 ht4 he4))
          all_goals
            have hads : ads2 = q2.1 := by have := MM4.out.ad.1; simpa using this.symm
            subst hads
            have tt4 := TT4.out
            have ZZ4 := Lib.hid (ZZ3.out.trn tt4)
            have BQ4 := Lib.hid (BQ3.out.trn tt4 (by decide) (by decide))
            have BF4 := Lib.hid (BF3.out.trn tt4 (by decide) (by decide))
            have J4 := Lib.hid (HJ.out _ _ _ J3.out ⟨tt4.os, tt4.tape, tt4.output, tt4.size, fun b hb => tt4.block b (by omega) (.inl hb)⟩)
            have Q4 := Lib.hid (Q3.out.keep (w' := w4) fun b _ h2 => tt4.block b (by omega) (.inl (by omega)))
            have F4 := Lib.hid (F3.out.keep (w' := w4) fun b _ h2 => tt4.block b (by omega) (.inl (by omega)))
            have ht4 := tt4.size
            have sz4 : W.heap.size ≤ w4.heap.size := by omega
            have hrl2 : r.length < ats.length := by have := hS.out; simp only [List.length_cons] at this; omega
            clear tt4 k0 k1 kf k0d kfd z0 z1 ea0 ea1 ef0 ef1 zq1 zf0 f0 q1
            rcases R4.out with ⟨hn4, he4, kk, hk4⟩ | ⟨hn4, he4⟩
            · have hv4 : v4 = .bool false := by have := EV4.out; rw [he4] at this; injection this with this; exact this.symm
              subst hv4
              have PG := Lib.hid (mgo_part hk4 GP.out VD.out)
              have RN := Lib.hid (remC_no fs ats n p r hrl2 (by rw [← HDD.out]; exact HFA.out) hnlt HFF.out hn4)
              clear hn4 he4 hk4
              go_wp2
              go_roundg (wkC fs ats ((n + 1, p) :: r))
              case measure => have := RN.out.2; omega
              case rel => exact ⟨(n + 1, p) :: r, q2, some ⟨gC, 0, none⟩, cap, d + 1, done, rfl, (by have := RN.out.2; omega), (by rw [List.length_cons, HDD.out]), rfl,
                Lib.hid ⟨.inr ⟨gC, rfl, ZZ4.out⟩, MM4.out, PG.out.2, ⟨PG.out.1, GP.out, (by omega), (by have := HDD.out; omega), WR.out⟩, J4.out, BQ4.out, BF4.out, Q4.out, F4.out, sz4⟩, Lib.hid (by rw [← RN.out.1]; exact hR.out), Lib.hid (by have := hS.out; simp only [List.length_cons] at this ⊢; omega)⟩
            · have hv4 : v4 = .bool true := by have := EV4.out; rw [he4] at this; injection this with this; exact this.symm
              subst hv4
              have hgd : Gd q2 := mtF_gd hn4 GP.out VD.out
              have PG := Lib.hid (And.intro (mtF_pre hn4).1 hgd)
              have RY := Lib.hid (remC_yes fs ats n p r hrl2 (by rw [← HDD.out]; exact HFA.out) hnlt HFF.out hn4)
              clear hn4 he4 hgd
              go_wp2
              exact wp_goto (And.intro rfl ⟨(g, (n + 1, p) :: r, q2, done), ⟨by have := hS.out; simp only [List.length_cons] at this ⊢; omega, by rw [← RY.out.1]; exact hR.out, some ⟨gC, 0, none⟩, cap, ⟨.inr ⟨gC, rfl, ZZ4.out⟩, MM4.out, PG.out.2, ⟨PG.out.1, GP.out, (by omega), (by have := HDD.out; omega), WR.out⟩, J4.out, BQ4.out, BF4.out, Q4.out, F4.out, sz4⟩, _, _, _, _, _, _, _, _, _, _, _, _, _, _, _, _, _, _, _, _, _, _, _, _, _, _, _, _, _, _, _, _, _, _, _, _, _, _, _, _, _, _, _, _, _, _, _, _, _, _, _, _, _, _, _, _, _, _, _, _, _, _, _, _, _, _, _, _, _, _, _, _, _, by rw [HDD.out]; rfl⟩, by have := RY.out.2; simp only; omega⟩)
end Go.Proofs.YtimlpdcambmcjaaGreat
