/- The cheapest order: the model's search, the program's visit of all orders. Conditions: none beyond each theorem's own. -/
import Derived.Test.YtighalbnpgmdfaaOr9
import Derived.Test.YtighalbnpgmdfaaMrkZ

namespace Go.Proofs.Ytighalbnpgmdfaa
open Go.ChangeShapes Go.WideShapes Go.ChangeAt Go.RowKit Go.Sort
set_option linter.unusedVariables false
set_option linter.unusedSimpArgs false

def better (ms : ML) (b o : SL) : SL := if b.length = 0 ∨ costN ms o < costN ms b then o else b
/-- The best of b and all orders of f more steps that begin with p. -/
def srch (ms : ML) (l : FL) : Nat → SL → SL → SL
  | 0, p, b => better ms b p
  | f + 1, p, b => (nextS ms l p).foldl (fun b st => srch ms l f (p ++ [st]) b) b
theorem foldl_keep {α β : Type} (P : β → Prop) (g : β → α → β) (hg : ∀ b x, P b → P (g b x)) : ∀ (xs : List α) (b : β), P b → P (xs.foldl g b)
  | [], _, h => h
  | x :: xs, b, h => foldl_keep P g hg xs _ (hg b x h)
theorem srch_len (ms : ML) (l : FL) : ∀ (f : Nat) (p b : SL), b.length ≤ 4 → p.length + f ≤ 4 → (srch ms l f p b).length ≤ 4
  | 0, p, b, h1, h2 => by
    show (better ms b p).length ≤ 4
    unfold better
    split <;> omega
  | f + 1, p, b, h1, h2 => by
    show (List.foldl _ b _).length ≤ 4
    exact foldl_keep (fun b : SL => b.length ≤ 4) _ (fun b st hb => srch_len ms l f _ b hb (by rw [List.length_append, List.length_singleton]; omega)) _ _ h1

/-- append(v, s...): v a row of steps of the call's own, s steps that are read. -/
theorem wpList_appendZ {P : Program} {W : World} {ops : Array Oper} {rest : List Oper} {o : Oper} {a : Act} {Q : Exit → Act → World → Prop} (hgd : o.guard = none) (s x : Operand) (t : TypeId)
    (ho : o.op = .call { callee := .builtin .append, args := #[s, x], argTypes := #[t, t] })
    (i : TypeInfo) (ht : P.underlying t = some (.slice 68)) (hi : P.info? 68 = some i) (hz : i.zero = some (.agg #[.int .i64 0, .int .i64 0])) (hz1 : i.size = 2) (hz2 : i.bytes = 16)
    {base c : Nat} {v : Value} {l p : SL} {pa : Addr} (hs : a.eval s = v) (hx : a.eval x = .slice (some pa) p.length c)
    (hown : ZS W base v l) (hr : RZ W (some pa) p) (hbase : base ≤ W.heap.size) (hn : l.length + p.length ≤ 1048580)
    (h : ∀ v' w', ZS w' base v' (l ++ p) → W.grownBy w' v.ownBlock → wpList P ops Q rest (a.put o.dst v') w') :
    wpList P ops Q (o :: rest) a W := by
  refine wpList_append_own (P := P) _ hgd s x t ho base 68 i _ 2 16 ht hi hz hz1 hz2 rfl (by omega) v l.length _ hs hown pa p.length c (flatZ p) hx (flatZ_len p) (fun j u hj => ?_) (fun u hu => ?_)
    (by unfold maxLen; omega) (by omega) hbase ?_
  · have hj2 : j < p.length * 2 := by rw [← flatZ_len]; exact (List.getElem?_eq_some_iff.1 hj).1
    have hk : j / 2 < p.length := by omega
    obtain ⟨b, off, he, _, _, h4⟩ := hr (by rintro rfl; simp at hk)
    injection he with he
    subst he
    obtain ⟨c0, c1⟩ := h4 (j / 2) hk
    obtain ⟨a0, a1⟩ := flatZ_at p hk
    rw [add_eq]
    rcases Nat.mod_two_eq_zero_or_one j with hm | hm
    · have e : j / 2 * 2 = j := by omega
      rw [e] at a0 c0
      rw [hj] at a0
      rw [c0, ← a0]
    · have e : j / 2 * 2 + 1 = j := by omega
      rw [e] at a1
      rw [Nat.add_assoc, e] at c1
      rw [hj] at a1
      rw [c1, ← a1]
  · unfold flatZ at hu
    rw [List.mem_flatMap] at hu
    obtain ⟨st, _, hu⟩ := hu
    simp at hu
    rcases hu with rfl | rfl <;> rfl
  · intro v' w' hown' hg _
    refine h v' w' ?_ hg
    unfold ZS
    have e : flatZ (l ++ p) = flatZ l ++ flatZ p := by simp [flatZ]
    rw [e, List.length_append]
    exact hown'
theorem ZS.some {w : World} {base : Nat} {v : Value} {l : SL} (h : ZS w base v l) (hl : 0 < l.length) : ∃ g c, v = .slice (some ⟨g, 0, none⟩) l.length c := by
  rcases h.2 with ⟨_, h0⟩ | ⟨g, cap, cur, hv, _⟩
  · omega
  · exact ⟨g, cap, hv⟩

/-- Steps that were made since block lo, or lay there. -/
def SrO (w : World) (lo : Nat) (x : SL) (e : Ending) (w' : World) : Prop := ∃ A c, e = .returned (.slice A x.length c) ∧ Stps w' lo w'.heap.size A x ∧ Below w.heap.size w w'
theorem better_yes {ms : ML} {b o : SL} (h : b.length = 0 ∨ costN ms o < costN ms b) : better ms b o = o := if_pos h
theorem better_no {ms : ML} {b o : SL} (h : ¬ (b.length = 0 ∨ costN ms o < costN ms b)) : better ms b o = b := if_neg h

set_option maxRecDepth 100000 in
set_option maxHeartbeats 2000000 in
theorem l6Search_end (L : Option Addr) (cl : Nat) (ms : ML) (H A : Option Addr) (ch c : Nat) (hs : List Int) (l : FL) (hzm : szM ms ≤ 1048576) (hl1 : 1 ≤ l.length) (hl4 : l.length ≤ 4)
    (lo : Nat) (pa : Addr) (cp : Nat) (p best : SL) (bd : List Int) (Ab : Option Addr) (cb : Nat) (Bb : Option Addr) (cbb : Nat) (w : World) (hpl : p.length = l.length) (hbl : best.length ≤ 4) (hlo : lo ≤ w.heap.size) (h1 : RM w L ms) (h3 : RZ w (some pa) p) (h5 : Stps w lo w.heap.size Bb best) :
    Calls Try.prog 67 #[.slice L ms.length cl, .agg #[.slice H hs.length ch, .slice A l.length c], .slice (some pa) p.length cp, .slice Ab bd.length cb, .slice Bb best.length cbb] w (SrO w lo (better ms best p)) := by
  obtain ⟨i0, hi, hz0, hz1, hz2⟩ := info_parts step_info
  have XQ := Lib.hid (Box.new w #[.slice H hs.length ch, .slice A l.length c] 37)
  have B0 := Lib.hid (below_alloc w (.cells #[.slice H hs.length ch, .slice A l.length c] 37))
  have q1 := XQ.out.cell 1
  simp only [List.getElem?_toArray, List.getElem?_cons_zero, List.getElem?_cons_succ] at q1
  have hbl' : (best.length : Int) ≤ 4 := by omega
  have d0 : ((p.length : Int) == (l.length : Int)) = true := by simp; omega
  have hp4 : p.length ≤ 4 := by omega
  have HLO := Lib.hid hlo
  have HB := Lib.hid ((Stps.below h5 B0.out (Nat.le_refl _)).mono (Nat.le_refl _) B0.out.size)
  have HP := Lib.hid (h3.step B0.out)
  have X1 := Lib.hid fun (W : World) (hW : Below w.heap.size w W) => spec_OrderCost L cl ms (some pa) cp p hzm (by omega) W (h1.step hW) (h3.step hW)
  have X2 := Lib.hid fun (W : World) (hW : Below w.heap.size w W) => spec_OrderCost L cl ms Bb cbb best hzm (by omega) W (h1.step hW) (RZ.step (h5.mono (Nat.zero_le _) (Nat.le_refl _)) hW)
  obtain ⟨r1, r2⟩ := costN_rng ms p
  obtain ⟨r3, r4⟩ := costN_rng ms best
  have HPL := Lib.hid hpl
  clear h1 h3 h5 hpl
  by_cases hb0 : best.length = 0
  · rw [better_yes (.inl hb0)]
    obtain rfl : best = [] := List.length_eq_zero_iff.1 hb0
    clear hb0 X1 X2 r1 r2 r3 r4
    have ZL0 := ZS.lit (w.alloc (.cells #[.slice H hs.length ch, .slice A l.length c] 37)) w.heap.size B0.out.size
    rw [al_size] at ZL0
    have ZL := Lib.hid ZL0
    clear ZL0
    go_enter Try.func67, Try.ntmps67
    go_wp2_with (at_builtin; refine wpList_appendZ rfl _ _ 39 rfl i0 Try.underlying39 hi hz0 hz1 hz2 rfl rfl ZL.out (HP.out.step (below_alloc _ _)) (by simp; omega) (by simp; omega) ?_; intro v' w5 hz5 hg5
                 rw [List.nil_append] at hz5
                 obtain ⟨A5, c5, rfl⟩ := hz5.form
                 have Z5 := Lib.hid hz5
                 have B5 := Lib.hid (show Below w.heap.size w w5 from (step B0.out (below_alloc _ _)).grown hg5 (by simp <;> omega) (fun q hq => by have := own_some hq; omega))
                 clear hz5 hg5)
    go_ret
    exact ⟨A5, c5, rfl, Z5.out.stps HLO.out, B5.out⟩
  · have d1 : ((best.length : Int) == 0) = false := by rw [beq_eq_false_iff_ne]; omega
    have d1' : (best.length == 0) = false := by rw [beq_eq_false_iff_ne]; exact hb0
    have hne : ¬ best = [] := fun e => hb0 (by rw [e]; rfl)
    have hbp : 0 < best.length := by omega
    generalize hcp : costN ms p = kp at X1 r1 r2
    generalize hcb : costN ms best = kb at X2 r3 r4
    have HCP := Lib.hid hcp
    have HCB := Lib.hid hcb
    have HB0 := Lib.hid hb0
    clear hcp hcb hb0
    by_cases hlt : kp < kb
    · rw [better_yes (.inr (by rw [HCP.out, HCB.out]; exact hlt))]
      have d2 : decide (kp < kb) = true := by simpa using hlt
      go_enter Try.func67, Try.ntmps67
      go_wp2_with fail
      refine (X1.out _ B0.out).mono ?_
      rintro e u1 ⟨rfl, d⟩
      have D1 := Lib.hid (step B0.out d)
      have HP1 := Lib.hid (HP.out.step d)
      clear d q1
      go_wp2_with fail
      refine (X2.out _ D1.out).mono ?_
      rintro e u2 ⟨rfl, d⟩
      have D2 := Lib.hid (step D1.out d)
      have HP2 := Lib.hid (HP1.out.step d)
      clear d
      go_wp2_with (at_builtin; refine wpList_appendZ rfl _ _ 39 rfl i0 Try.underlying39 hi hz0 hz1 hz2 rfl rfl (ZS.lit _ w.heap.size D2.out.size) (HP2.out.step (below_alloc _ _)) (by have := D2.out.size; simp; omega) (by simp; omega) ?_; intro v' w5 hz5 hg5
                   rw [List.nil_append] at hz5
                   obtain ⟨A5, c5, rfl⟩ := hz5.form
                   have Z5 := Lib.hid hz5
                   have B5 := Lib.hid (show Below w.heap.size w w5 from (step D2.out (below_alloc _ _)).grown hg5 (by have := D2.out.size; simp <;> omega) (fun q hq => by have := own_some hq; have := D2.out.size; omega))
                   clear hz5 hg5)
      go_ret
      exact ⟨A5, c5, rfl, Z5.out.stps HLO.out, B5.out⟩
    · rw [better_no (by rw [HCP.out, HCB.out]; rintro (h | h); exact HB0.out h; exact hlt h)]
      have d2 : decide (kp < kb) = false := by simpa using hlt
      go_enter Try.func67, Try.ntmps67
      go_wp2_with fail
      refine (X1.out _ B0.out).mono ?_
      rintro e u1 ⟨rfl, d⟩
      have D1 := Lib.hid (step B0.out d)
      have HB1 := Lib.hid ((Stps.below HB.out d (Nat.le_refl _)).mono (Nat.le_refl _) d.size)
      clear d q1
      go_wp2_with fail
      refine (X2.out _ D1.out).mono ?_
      rintro e u2 ⟨rfl, d⟩
      have D2 := Lib.hid (step D1.out d)
      have HB2 := Lib.hid ((Stps.below HB1.out d (Nat.le_refl _)).mono (Nat.le_refl _) d.size)
      clear d
      go_wp2
      go_ret
      exact ⟨Bb, cbb, rfl, HB2.out, D2.out⟩
end Go.Proofs.Ytighalbnpgmdfaa

namespace Go.Proofs.Ytighalbnpgmdfaa
open Go.ChangeShapes Go.WideShapes Go.ChangeAt Go.RowKit Go.Sort
set_option linter.unusedVariables false
set_option linter.unusedSimpArgs false

set_option maxRecDepth 100000 in
set_option maxHeartbeats 4000000 in
theorem l6Search_any (L : Option Addr) (cl : Nat) (ms : ML) (H A : Option Addr) (ch c : Nat) (hs : List Int) (l : FL) (hfew : FewA l) (hl1 : 1 ≤ l.length) (hzm : szM ms ≤ 1048576) (hm5 : ms.length ≤ 5) : ∀ (f : Nat) (lo : Nat) (pa : Addr) (cp : Nat) (p best : SL) (bd : List Int) (Ab : Option Addr) (cb : Nat) (Bb : Option Addr) (cbb : Nat) (w : World),
    p.length + f = l.length → InP l ms p → bd = bnd l p → best.length ≤ 4 → lo ≤ w.heap.size → RM w L ms → RF w A l → RZ w (some pa) p → RI w Ab bd → Stps w lo w.heap.size Bb best →
    Calls Try.prog 67 #[.slice L ms.length cl, .agg #[.slice H hs.length ch, .slice A l.length c], .slice (some pa) p.length cp, .slice Ab bd.length cb, .slice Bb best.length cbb] w (SrO w lo (srch ms l f p best)) := by
  obtain ⟨i0, hi, hz0, hz1, hz2⟩ := info_parts step_info
  have hl4 := hfew.1
  have hl4' : (l.length : Int) ≤ 4 := by omega
  have hm5' : (ms.length : Int) ≤ 5 := by omega
  have HFW := Lib.hid hfew
  clear hfew
  intro f
  induction f with
  | zero =>
    intro lo pa cp p best bd Ab cb Bb cbb w hpf hin hbd hbl hlo h1 h2 h3 h4 h5
    exact l6Search_end L cl ms H A ch c hs l hzm hl1 hl4 lo pa cp p best bd Ab cb Bb cbb w (by omega) hbl hlo h1 h3 h5
  | succ f ih0 =>
    intro lo pa cp p best bd Ab cb Bb cbb w hpf hin hbd hbl hlo h1 h2 h3 h4 h5
    have IH := Lib.hid ih0
    have HPF := Lib.hid hpf
    have HIN := Lib.hid hin
    have HBD := Lib.hid hbd
    have HLO := Lib.hid hlo
    have HM := Lib.hid h1
    have HF := Lib.hid h2
    have HP := Lib.hid h3
    have HI := Lib.hid h4
    have XQ := Lib.hid (Box.new w #[.slice H hs.length ch, .slice A l.length c] 37)
    have b0 := below_alloc w (.cells #[.slice H hs.length ch, .slice A l.length c] 37)
    have B0 := Lib.hid b0
    have HB := Lib.hid ((Stps.below h5 b0 (Nat.le_refl _)).mono (Nat.le_refl _) b0.size)
    have hpl : p.length < l.length := by omega
    have hp4' : (p.length : Int) ≤ 4 := by omega
    have hbl' : (best.length : Int) ≤ 4 := by omega
    have d0 : ((p.length : Int) == (l.length : Int)) = false := by simp; omega
    have hbdl : bd.length ≤ 8 := by have := wl_len 10 17 (terms (called l p)); rw [hbd]; unfold bnd; omega
    obtain ⟨F, hF⟩ : ∃ F : SL → Int × Int → SL, F = fun b st => srch ms l f (p ++ [st]) b := ⟨_, rfl⟩
    have EF := Lib.hid (show srch ms l (f + 1) p best = (nextI ms l bd (miss l.length p)).foldl F best by rw [hF, hbd]; rfl)
    have FE := Lib.hid (show ∀ b st, F b st = srch ms l f (p ++ [st]) b from fun b st => by rw [hF])
    have FL_ := Lib.hid (show ∀ b st, b.length ≤ 4 → (F b st).length ≤ 4 from fun b st hb => by rw [hF]; exact srch_len ms l f _ b hb (by rw [List.length_append, List.length_singleton]; omega))
    rw [EF.out]
    clear h1 h2 h3 h4 h5 hin hbd hlo ih0 hpf b0 hF
    have q1 := XQ.out.cell 1
    simp only [List.getElem?_toArray, List.getElem?_cons_zero, List.getElem?_cons_succ] at q1
    go_enter Try.func67, Try.ntmps67
    go_wp2
    go_loopw [4, 11, 12, 13, 14, 15] (fun bv iv _ _ _ _ wr => ∃ (i : Nat) (B2 : Option Addr) (cb2 : Nat) (b : SL), i ≤ l.length ∧ iv = .int .i64 i ∧ bv = .slice B2 b.length cb2 ∧ Hid (b = (nextI ms l bd (miss i p)).foldl F best) ∧ b.length ≤ 4 ∧ Hid (Stps wr lo wr.heap.size B2 b) ∧ Hid (Below w.heap.size w wr) ∧ Hid (Box wr w.heap.size #[.slice H hs.length ch, .slice A l.length c] 37)) (fun _ iv _ _ _ _ _ => l.length - (intOf iv).toNat)
    case atStart => exact ⟨0, Bb, cbb, best, by omega, rfl, rfl, Lib.hid rfl, hbl, HB, B0, XQ⟩
    case round =>
      obtain ⟨i, B2, cb2, b, hil, rfl, rfl, hb, hbl2, hst, hbw, xq⟩ := hrel
      have q1 := xq.out.cell 1
      simp only [List.getElem?_toArray, List.getElem?_cons_zero, List.getElem?_cons_succ] at q1
      have hi0 : (0 : Int) ≤ (i : Int) := by omega
      by_cases hlt : i < l.length
      · have hi1 : (i : Int) < (l.length : Int) := by omega
        have HPR := Lib.hid (HP.out.step hbw.out)
        go_wp2
        go_loopw [12, 13] (fun fv jv wx => ∃ j : Nat, j ≤ p.length ∧ jv = .int .i64 j ∧ fv = .bool (usedB (p.take j) (i : Int)) ∧ wx = wr) (fun _ jv _ => p.length - (intOf jv).toNat)
        case atStart => exact ⟨0, by omega, rfl, rfl, rfl⟩
        case round =>
          obtain ⟨j, hj, rfl, rfl, rfl⟩ := hrel
          have hj0 : (0 : Int) ≤ (j : Int) := by omega
          by_cases hjt : j < p.length
          · have hj1 : (j : Int) < (p.length : Int) := by omega
            generalize hf : p.getD j (0, 0) = g
            obtain ⟨a, m⟩ := g
            have US := Lib.hid (usedB_step hjt hf (i : Int))
            obtain ⟨bb, off, hpa, n1, e0, e1⟩ := HPR.out.at_ hjt hf
            injection hpa with hpa
            subst hpa
            generalize usedB (p.take j) (i : Int) = q at US ⊢
            clear hf
            cases q
            · by_cases he : a = (i : Int)
              · have d1 : (a == (i : Int)) = true := by simpa using he
                have UT := Lib.hid (show usedB (p.take (j + 1)) (i : Int) = true by rw [US.out, he]; simp)
                clear he
                go_wp2
                go_roundw
                case rel => exact ⟨j + 1, by omega, by go_num, by rw [UT.out], by first | rfl | trivial⟩
                case measure => simp [intOf]; omega
              · have d1 : (a == (i : Int)) = false := by simpa using he
                have UT := Lib.hid (show usedB (p.take (j + 1)) (i : Int) = false by rw [US.out, decide_eq_false fun e => he e.symm]; rfl)
                clear he
                go_wp2
                go_roundw
                case rel => exact ⟨j + 1, by omega, by go_num, by rw [UT.out], by first | rfl | trivial⟩
                case measure => simp [intOf]; omega
            · have UT := Lib.hid (show usedB (p.take (j + 1)) (i : Int) = true by rw [US.out]; rfl)
              go_wp2
              go_roundw
              case rel => exact ⟨j + 1, by omega, by go_num, by rw [UT.out], by first | rfl | trivial⟩
              case measure => simp [intOf]; omega
          · obtain rfl : j = p.length := by omega
            have TA := Lib.hid (show usedB (p.take p.length) (i : Int) = usedB p (i : Int) by rw [take_all])
            generalize usedB (p.take p.length) (i : Int) = q at TA ⊢
            cases q
            · have UF := Lib.hid TA.out.symm
              generalize hgf : l.getD i noF = gf
              obtain ⟨ra, ts⟩ := gf
              have HGF := Lib.hid hgf
              have hts : ts.length ≤ 3 := by have := HFW.out.2 i hlt; rw [hgf] at this; exact this
              have NS := Lib.hid (show (nextI ms l bd (miss (i + 1) p)).foldl F best = ((firstsOf ms (ra, ts) bd ms.length).map (fun j : Nat => ((i : Int), (j : Int)))).foldl F b by rw [miss_yes UF.out, nextI_snoc, hgf, List.foldl_append, hb.out])
              clear hgf
              go_wp2
              go_loopw [4, 14, 15] (fun bv mv _ wy => ∃ (m : Nat) (B3 : Option Addr) (cb3 : Nat) (b3 : SL), m ≤ ms.length ∧ mv = .int .i64 m ∧ bv = .slice B3 b3.length cb3 ∧ Hid (b3 = ((firstsOf ms (ra, ts) bd m).map (fun j : Nat => ((i : Int), (j : Int)))).foldl F b) ∧ b3.length ≤ 4 ∧ Hid (Stps wy lo wy.heap.size B3 b3) ∧ Hid (Below w.heap.size w wy) ∧ Hid (Box wy w.heap.size #[.slice H hs.length ch, .slice A l.length c] 37)) (fun _ mv _ _ => ms.length - (intOf mv).toNat)
              case atStart => exact ⟨0, B2, cb2, b, by omega, rfl, rfl, Lib.hid (by simp [firstsOf]), hbl2, hst, hbw, xq⟩
              case round =>
                obtain ⟨m, B3, cb3, b3, hml, rfl, rfl, hb3, hbl3, hst3, hbw3, xq3⟩ := hrel
                have hm0 : (0 : Int) ≤ (m : Int) := by omega
                by_cases hmt : m < ms.length
                · have hm1 : (m : Int) < (ms.length : Int) := by omega
                  generalize hfm : ms.getD m noM = fm
                  obtain ⟨r, inp, li, cs', qu⟩ := fm
                  have hil2 : inp.length ≤ 1048576 := by have := szM_elem hzm hmt; rw [hfm] at this; exact this
                  obtain ⟨bm, om, C, cc, hLe, nm, f0, f1, f2, f3, f4, _, _, hIm⟩ := (HM.out.step hbw3.out).at_ hmt hfm
                  subst hLe
                  obtain ⟨bq, oq, B, cB, hAe, nq, g0, g1, hxc, hcm, hJx⟩ := HF.out.at_ hlt HGF.out
                  subst hAe
                  have q1 := xq3.out.cell 1
                  simp only [List.getElem?_toArray, List.getElem?_cons_zero, List.getElem?_cons_succ] at q1
                  have G0 := Lib.hid g0
                  have G1 := Lib.hid g1
                  have kq := cell_regrown q1
                  have a0 := cell_regrown ((hbw3.out.cell (p := ⟨bq, oq + i * 2, none⟩) nq).trans g0)
                  have a1 := cell_regrown ((hbw3.out.cell (p := ⟨bq, oq + i * 2 + 1, none⟩) nq).trans g1)
                  have m0 := cell_regrown f0
                  have m1 := cell_regrown f1
                  have m2 := cell_regrown f2
                  have m3 := cell_regrown f3
                  have m4 := cell_regrown f4
                  have HIm := Lib.hid (show RI wr C inp from hIm)
                  have HJx := Lib.hid (show RI w B ts from hJx)
                  have XCC := Lib.hid fun (W : World) (hW : Below wr.heap.size wr W) => (show Calls Try.prog 51 #[.agg #[.int .i64 r, .slice C inp.length cc, .int .i64 li, .int .i64 cs', .int .i64 qu], .agg #[.int .i64 ra, .slice B ts.length cB], .slice Ab bd.length cb] W fun e w' => e = .returned (.bool (canB r inp ra ts bd)) ∧ Below W.heap.size W w' from spec_CanCall r inp li cs' qu C cc ra ts B cB Ab cb bd hil2 (by omega) (by omega) W (HIm.out.step hW) (HJx.out.step (step hbw3.out hW)) (HI.out.step (step hbw3.out hW)))
                  have HC := Lib.hid (show canM (ms.getD m noM) (ra, ts) bd = canB r inp ra ts bd by rw [hfm]; rfl)
                  have SO := Lib.hid (show stepOk ms l p ((i : Int), (m : Int)) = canB r inp ra ts bd by rw [step_can (inB_len hlt) UF.out (inB_len hmt) hfm HGF.out, HBD.out])
                  have hst3b := Lib.hid hst3.out
                  generalize canB r inp ra ts bd = q at XCC HC SO
                  clear hfm hIm hJx f0 f1 f2 f3 f4 g0 g1 q1
                  cases q
                  · go_wp2
                    refine wp_region_quiet_below (by kernel_rfl) (by kernel_rfl) ?_
                    repeat (go_big_quiet_step (first | (go_at_call 51; with_reducible exact Calls.regrown_of (XCC.out _ (below_regrown _ _ _)))))
                    refine wpQuiet_nil ?_
                    intro u2 hw'
                    have b6 : Below wr.heap.size wr u2 := by obtain ⟨⟨dq, osq⟩, rfl⟩ := hw'; exact below_regrown _ _ _
                    have T6 := Lib.hid (step hbw3.out b6)
                    have X6 := Lib.hid (xq3.out.step b6)
                    have S6 := Lib.hid ((Stps.below hst3b.out b6 (Nat.le_refl _)).mono (Nat.le_refl _) b6.size)
                    have BN := Lib.hid (show b3 = ((firstsOf ms (ra, ts) bd (m + 1)).map (fun j : Nat => ((i : Int), (j : Int)))).foldl F b by rw [firstsOf_no HC.out]; exact hb3.out)
                    clear hw' b6 kq a0 a1 m0 m1 m2 m3 m4
                    go_wp2
                    go_roundw
                    case rel => exact ⟨m + 1, B3, cb3, b3, by omega, by go_num, rfl, BN, hbl3, S6, T6, X6⟩
                    case measure => simp [intOf]; omega
                  · go_wp2
                    refine wp_region_quiet_below (by kernel_rfl) (by kernel_rfl) ?_
                    repeat (go_big_quiet_step (first | (go_at_call 51; with_reducible exact Calls.regrown_of (XCC.out _ (below_regrown _ _ _)))))
                    refine wpQuiet_nil ?_
                    intro u2 hw'
                    have b6 : Below wr.heap.size wr u2 := by obtain ⟨⟨dq, osq⟩, rfl⟩ := hw'; exact below_regrown _ _ _
                    have T6 := Lib.hid (step hbw3.out b6)
                    have X6 := Lib.hid (xq3.out.step b6)
                    have S6 := Lib.hid ((Stps.below hst3b.out b6 (Nat.le_refl _)).mono (Nat.le_refl _) b6.size)
                    have P6 := Lib.hid (HP.out.step T6.out)
                    have BN := Lib.hid (show F b3 ((i : Int), (m : Int)) = ((firstsOf ms (ra, ts) bd (m + 1)).map (fun j : Nat => ((i : Int), (j : Int)))).foldl F b by rw [firstsOf_yes HC.out, List.map_append, List.foldl_append, ← hb3.out]; rfl)
                    have LL := Lib.hid (show (p ++ [((i : Int), (m : Int))]).length = p.length + 1 by simp)
                    have IN := Lib.hid (HIN.out.snoc SO.out)
                    have CK := Lib.hid (show bnd l (p ++ [((i : Int), (m : Int))]) = wl 10 17 (terms (called l p) ++ ts) by unfold bnd; rw [called_snoc]; simp only [Int.toNat_natCast, HGF.out]; rw [terms_snoc])
                    have hlo6 : lo ≤ u2.heap.size := by have := HLO.out; have := T6.out.size; omega
                    have hwu : w.heap.size < u2.heap.size := X6.out.lt
                    clear hw' b6 kq a0 a1 m0 m1 m2 m3 m4
                    go_wp2_with (first
                      | (at_builtin; refine wpList_appendZ rfl _ _ 39 rfl i0 Try.underlying39 hi hz0 hz1 hz2 rfl rfl (ZS.lit u2 u2.heap.size (Nat.le_refl _)) (P6.out.step (below_alloc _ _)) (by simp) (by simp; omega) ?_; intro v5 w5 hz5 hg5
                         rw [List.nil_append] at hz5
                         obtain ⟨A5, c5, rfl⟩ := hz5.form
                         have Z5 := Lib.hid hz5
                         have B5 := Lib.hid (show Below u2.heap.size u2 w5 from (below_alloc u2 (.cells #[] 68)).grown hg5 (by simp) (fun q hq => by have := own_some hq; omega))
                         have hz6 : u2.heap.size ≤ w5.heap.size := B5.out.size
                         clear hz5 hg5)
                      | (at_builtin; refine wpList_pushZ rfl _ _ 39 rfl i0 Try.underlying39 hi hz0 hz1 hz2 rfl rfl Z5.out B5.out hz6 (by omega) ?_; intro v7 w7 hz7 hb7 hs7
                         obtain ⟨g7, c7, rfl⟩ := hz7.some (by rw [LL.out]; omega)
                         have Z7 := Lib.hid hz7
                         have B7 := Lib.hid (show Below u2.heap.size u2 w7 from hb7)
                         clear hz7 hb7))
                    have TT7 := Lib.hid (step T6.out B7.out)
                    have X7 := Lib.hid (X6.out.step B7.out)
                    have S7 := Lib.hid ((Stps.below S6.out B7.out (Nat.le_refl _)).mono (Nat.le_refl _) B7.out.size)
                    have n0 := X7.out.cell 0
                    have n1' := X7.out.cell 1
                    simp only [List.getElem?_toArray, List.getElem?_cons_zero, List.getElem?_cons_succ] at n0 n1'
                    have a0 := (TT7.out.cell (p := ⟨bq, oq + i * 2, none⟩) nq).trans G0.out
                    have a1 := (TT7.out.cell (p := ⟨bq, oq + i * 2 + 1, none⟩) nq).trans G1.out
                    have nq7 : bq < w7.heap.size := by omega
                    have nw7 : w.heap.size < w7.heap.size := by omega
                    have XLB := Lib.hid fun (W : World) (hW : Below w7.heap.size w7 W) => l6Bind_any Ab cb bd (terms (called l p)) ra ts B cB HBD.out (by omega) W (HI.out.step (step TT7.out hW)) (HJx.out.step (step TT7.out hW))
                    have XS := Lib.hid fun (A8 : Option Addr) (c8 : Nat) (W : World) (hW : Below w7.heap.size w7 W) (hI8 : RI W A8 (wl 10 17 (terms (called l p) ++ ts))) => (show Calls Try.prog 67 #[.slice (some ⟨bm, om, none⟩) ms.length cl, .agg #[.slice H hs.length ch, .slice (some ⟨bq, oq, none⟩) l.length c], .slice (some ⟨g7, 0, none⟩) (p.length + 1) c7, .slice A8 (wl 10 17 (terms (called l p) ++ ts)).length c8, .slice B3 b3.length cb3] W (SrO W lo (F b3 ((i : Int), (m : Int)))) by
                      have := IH.out lo ⟨g7, 0, none⟩ c7 (p ++ [((i : Int), (m : Int))]) b3 _ A8 c8 B3 cb3 W (by rw [LL.out]; have := HPF.out; omega) IN.out CK.out.symm hbl3 (by have := hW.size; omega) (HM.out.step (step TT7.out hW)) (HF.out.step (step TT7.out hW)) (RZ.step Z7.out.rz hW) hI8 ((Stps.below S7.out hW (Nat.le_refl _)).mono (Nat.le_refl _) hW.size)
                      rw [LL.out, ← FE.out] at this
                      exact this)
                    have L9 := FL_.out b3 ((i : Int), (m : Int)) hbl3
                    generalize F b3 ((i : Int), (m : Int)) = b9 at BN XS L9
                    generalize wl 10 17 (terms (called l p) ++ ts) = bd8 at XLB XS
                    have tok1 : True := trivial
                    have tok2 : True := trivial
                    go_wp2
                    go_region_held3 (fun w' => w'.cell? ⟨w.heap.size, 0, none⟩ = some (.slice H hs.length ch) ∧ w'.cell? ⟨w.heap.size, 1, none⟩ = some (.slice (some ⟨bq, oq, none⟩) l.length c) ∧ w'.cell? ⟨bq, oq + i * 2, none⟩ = some (.int .i64 ra) ∧ w'.cell? ⟨bq, oq + i * 2 + 1, none⟩ = some (.slice B ts.length cB))
                      (first
                        | go_keep
                        | (go_split_ands; refine ⟨?_, ?_, ?_, ?_⟩ <;> (rw [d1.cell (by (try simp) <;> omega)]; assumption))
                        | (go_split_ands; refine ⟨?_, ?_, ?_, ?_⟩ <;> (rw [d2.cell (by (try simp) <;> omega)]; assumption)))
                      (first
                        | (go_at_call 52
                           clear tok1
                           refine (XLB.out _ (by first | exact Below.refl _ _ | exact below_drew _)).mono ?_
                           rintro e u8 ⟨A8, c8, rfl, hI8, d1⟩
                           have b8 : Below w7.heap.size w7 u8 := by first | exact d1 | exact und d1 | exact undN d1
                           have I8 := Lib.hid (show RI u8 A8 bd8 from hI8.mono (Nat.zero_le _) (Nat.le_refl _))
                           have sz8 := b8.size
                           clear hI8)
                        | (go_at_call 67
                           clear tok2
                           refine (XS.out A8 c8 _ (by first | exact b8 | exact step b8 (below_drew _)) (by first | exact I8.out | exact I8.out.step (below_drew _))).mono ?_
                           rintro e u9 ⟨A9, c9, rfl, hS9, d2⟩
                           have b9' : Below u8.heap.size u8 u9 := by first | exact d2 | exact und d2 | exact undN d2
                           have S9 := Lib.hid hS9
                           have sz9 := b9'.size
                           clear hS9))
                    have T9 := Lib.hid (step TT7.out (step b8 b9'))
                    have X9 := Lib.hid (X7.out.step (step b8 b9'))
                    clear d1 d2 b8 b9' n0 n1' a0 a1 I8
                    go_wp2
                    go_roundw
                    case rel => exact ⟨m + 1, A9, c9, b9, by omega, by go_num, rfl, BN, L9, by first | exact S9 | exact Lib.hid ((Stps.below S9.out (below_drew _) (Nat.le_refl _))), by first | exact T9 | exact Lib.hid T9.out.drew, by first | exact X9 | exact Lib.hid (X9.out.step (below_drew _))⟩
                    case measure => simp [intOf]; omega
                · obtain rfl : m = ms.length := by omega
                  have BE := Lib.hid (show b3 = (nextI ms l bd (miss (i + 1) p)).foldl F best by rw [NS.out, hb3.out])
                  go_wp2
                  go_roundw
                  case rel => exact ⟨i + 1, B3, cb3, b3, by omega, by go_num, rfl, BE, hbl3, hst3, hbw3, xq3⟩
                  case measure => simp [intOf]; omega
            · have UF := Lib.hid TA.out.symm
              have BE := Lib.hid (show b = (nextI ms l bd (miss (i + 1) p)).foldl F best by rw [miss_no UF.out, hb.out])
              go_wp2
              go_loopw [4, 14, 15] (fun bv mv _ wy => bv = .slice B2 b.length cb2 ∧ mv = .int .i64 (0 : Nat) ∧ wy = wr) (fun _ _ _ _ => 0)
              case atStart => exact ⟨rfl, rfl, rfl⟩
              case round =>
                obtain ⟨rfl, rfl, rfl⟩ := hrel
                by_cases hmm : 0 < ms.length
                · have e1 : (0 : Int) < (ms.length : Int) := by omega
                  go_wp2
                  go_roundw
                  case rel => exact ⟨i + 1, B2, cb2, b, by omega, by go_num, rfl, BE, hbl2, hst, hbw, xq⟩
                  case measure => simp [intOf]; omega
                · have e1 : ¬ (0 : Int) < (ms.length : Int) := by omega
                  have e2 : ms.length = 0 := by omega
                  go_wp2
                  go_roundw
                  case rel => exact ⟨i + 1, B2, cb2, b, by omega, by go_num, rfl, BE, hbl2, hst, hbw, xq⟩
                  case measure => simp [intOf]; omega
      · obtain rfl : i = l.length := by omega
        go_wp2
        go_ret
        exact ⟨B2, cb2, congrArg (fun o : SL => Ending.returned (.slice B2 o.length cb2)) hb.out, by rw [← hb.out]; exact hst.out, hbw.out⟩
end Go.Proofs.Ytighalbnpgmdfaa

namespace Go.Proofs.Ytighalbnpgmdfaa
open Go.ChangeShapes Go.WideShapes Go.ChangeAt Go.RowKit Go.Sort
set_option linter.unusedVariables false
set_option linter.unusedSimpArgs false

/-- One step more behind a row of the call's own: the row itself reads as before. -/
theorem run_append_step {P : Program} (w : World) (base : Nat) (t ty : TypeId) (i : TypeInfo) (ht : P.underlying t = some (.slice 68)) (hi : P.info? 68 = some i) (hz : i.zero = some (.agg #[.int .i64 0, .int .i64 0])) (hz1 : i.size = 2) (hz2 : i.bytes = 16)
    (v : Value) (l : SL) (y1 y2 : Int) (hown : ZS w base v l) (ad : Addr) (h0 : w.cell? (ad.add 0) = some (.int .i64 y1)) (h1 : w.cell? (ad.add 1) = some (.int .i64 y2)) (hn : l.length + 1 ≤ 1048580) (hbase : base ≤ w.heap.size) :
    ∃ v' w', (Builtin.append_ #[t, t] ty #[v, .slice (some ad) 1 1]).run P w = .ok v' w' ∧ ZS w' base v' (l ++ [(y1, y2)]) ∧ ZS w' base v l ∧ w.grownBy w' v.ownBlock ∧ (v'.ownBlock = v.ownBlock ∨ v'.ownBlock = some w.heap.size) := by
  have hnews : ∀ (j : Nat) (u : Value), ([.int .i64 y1, .int .i64 y2] : List Value)[j]? = some u → w.cell? (ad.add j) = some u := fun j u hj => by
    rcases j with _ | _ | j
    · simp at hj; subst hj; exact h0
    · simp at hj; subst hj; exact h1
    · simp at hj
  have hone : ∀ u ∈ ([.int .i64 y1, .int .i64 y2] : List Value), u.oneCell' = true := by simp [Value.oneCell']
  obtain ⟨v', w', hr, k1, k2, _⟩ := run_append_own (P := P) w base t ty 68 i _ 2 16 ht hi hz hz1 hz2 rfl (by omega) v l.length (flatZ l) hown ad 1 1 [.int .i64 y1, .int .i64 y2] rfl hnews hone (by unfold maxLen; omega) (by omega) hbase
  have k1' : ZS w' base v' (l ++ [(y1, y2)]) := by
    unfold ZS
    rw [flatZ_snoc, List.length_append]
    exact k1
  have hsz1 : i.size = 2 := hz1
  rcases hown.2 with ⟨rfl, hl0⟩ | ⟨g, cap, cur, rfl, hbg, hg, hnc, hcm, hcs, htk⟩
  · have hle : l = [] := List.length_eq_zero_iff.1 hl0
    subst hle
    have hr2 := run_append_nil (P := P) w t ty 68 i _ ht hi hz ad 1 1 [.int .i64 y1, .int .i64 y2] (by rw [hz1]; rfl) hnews (by omega) (by omega) (by rw [hz2]; omega)
    rw [hr2] at hr
    injection hr with e1 e2
    subst e1 e2
    exact ⟨_, _, hr2, k1', ZS.nil _ _, k2, .inr rfl⟩
  · by_cases hroom : l.length + 1 ≤ cap
    · have hr2 := run_append_room (P := P) w t ty 68 i ht hi g l.length cap cur hg ad 1 1 [.int .i64 y1, .int .i64 y2] (by rw [hz1]; rfl) hnews hone hroom (by rw [hz1, hcs]; simp; omega)
      rw [hr2] at hr
      injection hr with e1 e2
      subst e1 e2
      refine ⟨_, _, hr2, k1', ⟨hown.1, .inr ⟨g, cap, _, rfl, hbg, setRow_heap w g cur _ 68 _ hg, hnc, hcm, ?_, ?_⟩⟩, k2, .inl rfl⟩
      · simp only [hz1, List.size_toArray, List.length_append, List.length_take, List.length_drop, Array.length_toList, List.length_cons, List.length_nil]
        omega
      · have hlt : (cur.toList.take (l.length * 2)).length = l.length * 2 := by rw [htk, flatZ_len]
        simp only [hz1, List.append_assoc]
        rw [List.take_append_of_le_length (by rw [hlt]; exact Nat.le_refl _), List.take_of_length_le (by rw [hlt]; exact Nat.le_refl _), htk]
    · have holds : ∀ (j : Nat) (u : Value), (flatZ l)[j]? = some u → w.cell? ((⟨g, 0, none⟩ : Addr).add j) = some u := World.ownsRow.cells hown (g := g) rfl
      have hr2 := run_append_grow (P := P) w t ty 68 i _ ht hi hz ⟨g, 0, none⟩ l.length cap (flatZ l) (by rw [hz1]; exact flatZ_len l) holds ad 1 1 [.int .i64 y1, .int .i64 y2] (by rw [hz1]; rfl) hnews (by omega) (by omega) (growslice_fits (by omega) (by rw [hz2]; omega))
      rw [hr2] at hr
      injection hr with e1 e2
      subst e1 e2
      have hlt : g < w.heap.size := by
        rcases Nat.lt_or_ge g w.heap.size with h2 | h2
        · exact h2
        · rw [Array.getElem?_eq_none h2] at hg; cases hg
      refine ⟨_, _, hr2, k1', ⟨hown.1, .inr ⟨g, cap, cur, rfl, hbg, ?_, hnc, hcm, hcs, htk⟩⟩, k2, .inr rfl⟩
      exact (Below.heap_alloc _ _ _ (by simpa using hlt)).trans hg

/-- The same as a step of a region that draws. -/
theorem step_appendS {P : Program} {w : World} {ops : Array Oper} {o : Oper} {a : Act} {K : Act → World → Prop} {Q : Exit → Act → World → Prop} {E : Prop} (hgd : o.guard = none) (s x : Operand) (t : TypeId)
    (ho : o.op = .call { callee := .builtin .append, args := #[s, x], argTypes := #[t, t] })
    (base : Nat) (i : TypeInfo) (ht : P.underlying t = some (.slice 68)) (hi : P.info? 68 = some i) (hz : i.zero = some (.agg #[.int .i64 0, .int .i64 0])) (hz1 : i.size = 2) (hz2 : i.bytes = 16)
    (v : Value) (l : SL) (y1 y2 : Int) (hs : a.eval s = v) (ad : Addr) (hx : a.eval x = .slice (some ad) 1 1) (hown : ZS w base v l) (h0 : w.cell? (ad.add 0) = some (.int .i64 y1)) (h1 : w.cell? (ad.add 1) = some (.int .i64 y2)) (hn : l.length + 1 ≤ 1048580) (hbase : base ≤ w.heap.size)
    (h : ∀ v' w', ZS w' base v' (l ++ [(y1, y2)]) → ZS w' base v l → w.grownBy w' v.ownBlock → (v'.ownBlock = v.ownBlock ∨ v'.ownBlock = some w.heap.size) → K (a.put o.dst v') w') :
    if Region.wanted o (yielded ops a.tmps) = true then Oper.wp P o a w K Q else E := by
  have hw : Region.wanted o (yielded ops a.tmps) = true := by simp [Region.wanted, hgd]
  rw [if_pos hw]
  obtain ⟨v', w', hr, k1, k2, k3, k4⟩ := run_append_step (P := P) w base t o.type i ht hi hz hz1 hz2 v l y1 y2 hown ad h0 h1 hn hbase
  unfold Oper.wp execOp
  simp only [ho, resolve, invoke, builtin, Sem.run_bind, Sem.run_pure, Result.andThen_ok, List.map_toArray, List.map_cons, List.map_nil, hs, hx, hr]
  exact h v' w' k1 k2 k3 k4

/-- What may have changed: block g, the row's block, and what is new. -/
structure Chg (g : Nat) (r : Option Nat) (w w' : World) : Prop where
  os : w'.os = w.os
  tape : w'.tape = w.tape
  output : w'.output = w.output
  size : w.heap.size ≤ w'.heap.size
  block : ∀ k, k < w.heap.size → k ≠ g → some k ≠ r → w'.heap[k]? = w.heap[k]?
theorem Chg.refl (g : Nat) (r : Option Nat) (w : World) : Chg g r w w := ⟨rfl, rfl, rfl, Nat.le_refl _, fun _ _ _ _ => rfl⟩
theorem Chg.of_below {g : Nat} {r : Option Nat} {w w' : World} (h : Below w.heap.size w w') : Chg g r w w' := ⟨h.os, h.tape, h.output, h.size, fun k hk _ _ => h.block k hk⟩
theorem Chg.of_grown {g : Nat} {r : Option Nat} {w w' : World} (h : w.grownBy w' r) : Chg g r w w' := ⟨h.os, h.tape, h.output, h.size, fun k hk _ hr => h.block k hk hr⟩
theorem Chg.trans {g : Nat} {r r' : Option Nat} {w w' w'' : World} (h : Chg g r w w') (h' : Chg g r' w' w'') (hr : ∀ k, r' = some k → r = some k ∨ w.heap.size ≤ k) : Chg g r w w'' :=
  ⟨h'.os.trans h.os, h'.tape.trans h.tape, h'.output.trans h.output, Nat.le_trans h.size h'.size, fun k hk hg hn => (h'.block k (Nat.lt_of_lt_of_le hk h.size) hg fun e => by
    rcases hr k e.symm with h1 | h1
    · exact hn h1.symm
    · omega).trans (h.block k hk hg hn)⟩
theorem Chg.below {g base : Nat} {r : Option Nat} {w w' : World} (h : Chg g r w w') (hg : base ≤ g) (hr : ∀ k, r = some k → base ≤ k) (hb : base ≤ w.heap.size) : Below base w w' :=
  ⟨h.os, h.tape, h.output, h.size, fun k hk => h.block k (by omega) (by omega) fun e => by have := hr k e.symm; omega⟩
theorem Chg.zs {g base : Nat} {r : Option Nat} {w w' : World} {v : Value} {l : SL} (h : Chg g r w w') (hz : ZS w base v l) (h1 : g < base) (h2 : ∀ k, v.ownBlock = some k → r ≠ some k) : ZS w' base v l := by
  refine ⟨hz.1, ?_⟩
  rcases hz.2 with hh | ⟨k, cap, cur, rfl, hbk, hk, rest⟩
  · exact .inl hh
  · have hlt : k < w.heap.size := by
      rcases Nat.lt_or_ge k w.heap.size with h3 | h3
      · exact h3
      · rw [Array.getElem?_eq_none h3] at hk; cases hk
    exact .inr ⟨k, cap, cur, rfl, hbk, (h.block k hlt (by omega) fun e => h2 k rfl e.symm).trans hk, rest⟩

set_option maxRecDepth 100000 in
set_option maxHeartbeats 1000000 in
theorem cloneZ_any (pa : Addr) (c : Nat) (p : SL) (hp : p.length ≤ 1048576) (w : World) (h : RZ w (some pa) p) :
    Calls Try.prog 72 #[.slice (some pa) p.length c] w (NxtO w p) := by
  obtain ⟨i0, hi, hz0, hz1, hz2⟩ := info_parts step_info
  have hq := fun (W : World) (n c : Nat) => Lib.run_eql_slice_nil (P := Try.prog) W 80 68 (some pa) n c 0 0 Try.underlying80
  have HI := Lib.hid (h.step (below_alloc w (.cells #[] 68)))
  clear h
  go_enter Try.func72, Try.ntmps72
  go_wp2_with (at_builtin; refine wpList_appendZ rfl _ _ 80 rfl i0 Try.underlying80 hi hz0 hz1 hz2 rfl rfl (ZS.lit w w.heap.size (Nat.le_refl _)) HI.out (by simp) (by simp; omega) ?_; intro v' w5 hz5 hg5
               rw [List.nil_append] at hz5
               obtain ⟨A5, c5, rfl⟩ := hz5.form
               have Z5 := Lib.hid hz5
               have B5 := Lib.hid (show Below w.heap.size w w5 from (below_alloc w (.cells #[] 68)).grown hg5 (by simp) (fun q hq => by have := own_some hq; omega))
               clear hz5 hg5)
  go_ret
  exact ⟨_, rfl, Z5.out, B5.out⟩
end Go.Proofs.Ytighalbnpgmdfaa

namespace Go.Proofs.Ytighalbnpgmdfaa
open Go.ChangeShapes Go.WideShapes Go.ChangeAt Go.RowKit Go.Sort
set_option linter.unusedVariables false
set_option linter.unusedSimpArgs false

theorem box1_set {w : World} {g : Nat} {t : TypeId} {a v : Value} (h : Box w g #[a] t) : Box (w.setCell ⟨g, 0, none⟩ v) g #[v] t := by simpa using h.set 0 v
theorem Chg.set {g : Nat} {r : Option Nat} {w w' : World} (h : Chg g r w w') (v : Value) : Chg g r w (w'.setCell ⟨g, 0, none⟩ v) :=
  ⟨h.os, h.tape, h.output, by rw [set_size]; exact h.size, fun k hk hg hr => (Below.heap_setCell _ _ _ _ (by simpa using hg)).trans (h.block k hk hg hr)⟩
/-- The row in which a longer one was made, after that one was changed behind its steps. -/
theorem zs_after {w5 u9 : World} {base gc : Nat} {vo v5 : Value} {p : SL} {a m : Int} (ho : ZS w5 base vo p) (h5 : ZS w5 base v5 (p ++ [(a, m)])) (hc : Chg gc v5.ownBlock w5 u9) (h9 : ZS u9 base v5 (p ++ [(a, m)])) (hgc : gc < base) : ZS u9 base vo p := by
  by_cases hs : ∃ g, vo.ownBlock = some g ∧ v5.ownBlock = some g
  · obtain ⟨g, e1, e2⟩ := hs
    rcases ho.2 with ⟨rfl, _⟩ | ⟨k, cap, cur, rfl, hbk, hk, hnc, hcm, hcs, htk⟩
    · cases e1
    rcases h5.2 with ⟨rfl, _⟩ | ⟨k5, cap5, cur5, rfl, hbk5, hk5, hnc5, hcm5, hcs5, htk5⟩
    · cases e2
    have q1 := own_some e1
    have q2 := own_some e2
    subst q1 q2
    rw [hk] at hk5
    injection hk5 with hk5
    injection hk5 with hk5
    subst hk5
    have hcap : cap5 = cap := by omega
    subst hcap
    rcases h9.2 with ⟨h0, _⟩ | ⟨k9, cap9, cur9, he9, hbk9, hk9, hnc9, hcm9, hcs9, htk9⟩
    · cases h0
    injection he9 with q3 q4 q5
    injection q3 with q3
    injection q3 with q3
    subst q3 q5
    refine ⟨ho.1, .inr ⟨_, _, cur9, rfl, hbk, hk9, hnc, hcm, hcs9, ?_⟩⟩
    have hl := flatZ_len p
    have e : (cur9.toList.take ((p ++ [(a, m)]).length * 2)).take (p.length * 2) = (flatZ (p ++ [(a, m)])).take (p.length * 2) := by rw [htk9]
    have e1 : (flatZ (p ++ [(a, m)])).take (p.length * 2) = flatZ p := by rw [flatZ_snoc, ← hl]; simp
    rw [List.take_take, e1] at e
    rw [← e]
    congr 1
    rw [List.length_append, List.length_singleton]
    omega
  · exact hc.zs ho hgc fun k hk e => hs ⟨k, hk, e⟩

/-- What the visitor leaves: the better of both, in the variable. -/
def FdO (gc base : Nat) (vb : Value) (x : SL) (w : World) (e : Ending) (w' : World) : Prop :=
  e = .returned (.tuple #[]) ∧ ∃ A c, Box w' gc #[.slice A x.length c] 80 ∧ ZS w' base (.slice A x.length c) x ∧ Chg gc none w w' ∧ ∀ k, (Value.slice A x.length c).ownBlock = some k → vb.ownBlock = some k ∨ w.heap.size ≤ k

set_option maxRecDepth 100000 in
set_option maxHeartbeats 2000000 in
theorem found_any (gc gl base : Nat) (L : Option Addr) (cl : Nat) (ms : ML) (pa : Addr) (co : Nat) (p b : SL) (Ab : Option Addr) (cb : Nat) (hzm : szM ms ≤ 1048576) (hb4 : b.length ≤ 4) (hp : p.length ≤ 4) (hgc : gc < base) (w : World) (hbs : base ≤ w.heap.size)
    (hc : Box w gc #[.slice Ab b.length cb] 80) (hg : Box w gl #[.slice L ms.length cl] 33) (hz : ZS w base (.slice Ab b.length cb) b) (hr : RZ w (some pa) p) (hm : RM w L ms) :
    Calls Try.prog 70 #[.slice (some pa) p.length co, .pointer (some ⟨gc, 0, none⟩), .pointer (some ⟨gl, 0, none⟩)] w (FdO gc base (.slice Ab b.length cb) (better ms b p) w) := by
  have c0 := hc.cell 0
  have g0 := hg.cell 0
  simp only [List.getElem?_toArray, List.getElem?_cons_zero, List.getElem?_cons_succ] at c0 g0
  have k0 := cell_regrown c0
  have k1 := cell_regrown g0
  have HC := Lib.hid hc
  have HZ := Lib.hid hz
  have HR := Lib.hid hr
  have X1 := Lib.hid fun (W : World) (hW : Below w.heap.size w W) => impl_OrderCost L cl ms (some pa) co p hzm (by omega) W (hm.step hW) (hr.step hW)
  have X2 := Lib.hid fun (W : World) (hW : Below w.heap.size w W) => impl_OrderCost L cl ms Ab cb b hzm (by omega) W (hm.step hW) (hz.rz.step hW)
  have XC := Lib.hid fun (W : World) (hW : Below w.heap.size w W) => cloneZ_any pa co p (by omega) W (hr.step hW)
  have hgw : gc < w.heap.size := hc.lt
  clear hc hg hz hr hm c0 g0
  have fin := Lib.hid fun (u u2 : World) (A2 : Option Addr) (c2 : Nat) (hb : Below w.heap.size w u) (hz2 : ZS u2 u.heap.size (.slice A2 p.length c2) p) (d : Below u.heap.size u u2) => (show FdO gc base (.slice Ab b.length cb) p w (.returned (.tuple #[])) (u2.setCell ⟨gc, 0, none⟩ (.slice A2 p.length c2)) from
    ⟨rfl, A2, c2, box1_set ((HC.out.step hb).step d), ownsRow_set (ownsRow_lo hz2 (by have := hb.size; omega)) hgc, (Chg.of_below (step hb d)).set _, fun k hk => .inr (by have := (World.ownsRow.lt hz2 k hk).1; have := hb.size; omega)⟩)
  by_cases hb0 : b.length = 0
  · rw [better_yes (.inl hb0)]
    obtain rfl : b = [] := List.length_eq_zero_iff.1 hb0
    clear hb0 X1 X2
    go_enter Try.func70, Try.ntmps70
    go_wp2
    refine wp_region_quiet_below (by kernel_rfl) (by kernel_rfl) ?_
    repeat (go_big_quiet_step (fail))
    refine wpQuiet_nil ?_
    intro u hw'
    have D := Lib.hid (show Below w.heap.size w u by obtain ⟨⟨dq, osq⟩, rfl⟩ := hw'; exact below_regrown _ _ _)
    clear hw' k0 k1
    go_wp2_with fail
    refine (XC.out _ D.out).mono ?_
    rintro e u2 ⟨v, rfl, hz2, d⟩
    obtain ⟨A2, c2, rfl⟩ := hz2.form
    have FN := Lib.hid (fin.out u u2 A2 c2 D.out hz2 d)
    have XB2 := (HC.out.step D.out).step d
    have p0 := XB2.cell 0
    have p1 := XB2.frozen 0
    simp only [List.getElem?_toArray, List.getElem?_cons_zero, List.getElem?_cons_succ] at p0
    clear hz2 d XB2
    go_wp2
    go_end0
    exact FN.out
  · have hne : ¬ b = [] := fun e => hb0 (by rw [e]; rfl)
    have hbp : 0 < b.length := by omega
    have d1 : ((b.length : Int) == 0) = false := by rw [beq_eq_false_iff_ne]; omega
    have d1' : (b.length == 0) = false := by rw [beq_eq_false_iff_ne]; exact hb0
    generalize hcp : costN ms p = kp at X1
    generalize hcb : costN ms b = kb at X2
    have HCP := Lib.hid hcp
    have HCB := Lib.hid hcb
    have HB0 := Lib.hid hb0
    clear hcp hcb hb0
    by_cases hlt : kp < kb
    · rw [better_yes (.inr (by rw [HCP.out, HCB.out]; exact hlt))]
      have d2 : decide (kp < kb) = true := by simpa using hlt
      go_enter Try.func70, Try.ntmps70
      go_wp2
      refine wp_region_quiet_below (by kernel_rfl) (by kernel_rfl) ?_
      repeat (go_big_quiet_step (first | (go_at_call 71; with_reducible exact Calls.regrown_of (X1.out _ (below_regrown _ _ _))) | (go_at_call 71; with_reducible exact Calls.regrown_of (X2.out _ (below_regrown _ _ _)))))
      refine wpQuiet_nil ?_
      intro u hw'
      have D := Lib.hid (show Below w.heap.size w u by obtain ⟨⟨dq, osq⟩, rfl⟩ := hw'; exact below_regrown _ _ _)
      clear hw' k0 k1
      go_wp2_with fail
      refine (XC.out _ D.out).mono ?_
      rintro e u2 ⟨v, rfl, hz2, d⟩
      obtain ⟨A2, c2, rfl⟩ := hz2.form
      have FN := Lib.hid (fin.out u u2 A2 c2 D.out hz2 d)
      have XB2 := (HC.out.step D.out).step d
      have p0 := XB2.cell 0
      have p1 := XB2.frozen 0
      simp only [List.getElem?_toArray, List.getElem?_cons_zero, List.getElem?_cons_succ] at p0
      clear hz2 d XB2
      go_wp2
      go_end0
      exact FN.out
    · rw [better_no (by rw [HCP.out, HCB.out]; rintro (h | h); exact HB0.out h; exact hlt h)]
      have d2 : decide (kp < kb) = false := by simpa using hlt
      go_enter Try.func70, Try.ntmps70
      go_wp2
      refine wp_region_quiet_below (by kernel_rfl) (by kernel_rfl) ?_
      repeat (go_big_quiet_step (first | (go_at_call 71; with_reducible exact Calls.regrown_of (X1.out _ (below_regrown _ _ _))) | (go_at_call 71; with_reducible exact Calls.regrown_of (X2.out _ (below_regrown _ _ _)))))
      refine wpQuiet_nil ?_
      intro u hw'
      have D := Lib.hid (show Below w.heap.size w u by obtain ⟨⟨dq, osq⟩, rfl⟩ := hw'; exact below_regrown _ _ _)
      clear hw' k0 k1
      go_wp2
      go_end0
      exact ⟨rfl, Ab, cb, HC.out.step D.out, HZ.out.step D.out, Chg.of_below D.out, fun k hk => .inl hk⟩
end Go.Proofs.Ytighalbnpgmdfaa

namespace Go.Proofs.Ytighalbnpgmdfaa
open Go.ChangeShapes Go.WideShapes Go.ChangeAt Go.RowKit Go.Sort
set_option linter.unusedVariables false
set_option linter.unusedSimpArgs false

/-- What a visit of all orders that begin with vo's steps leaves. -/
def EaO (gc base : Nat) (vb vo : Value) (p x : SL) (w : World) (e : Ending) (w' : World) : Prop :=
  e = .returned (.tuple #[]) ∧ ∃ A c, Box w' gc #[.slice A x.length c] 80 ∧ ZS w' base (.slice A x.length c) x ∧ ZS w' base vo p ∧ Chg gc vo.ownBlock w w' ∧ ∀ k, (Value.slice A x.length c).ownBlock = some k → vb.ownBlock = some k ∨ w.heap.size ≤ k
/-- How all lies before a visit. -/
structure EaI (w0 : World) (gc gl base : Nat) (L : Option Addr) (cl : Nat) (ms : ML) (vb vo : Value) (b p : SL) (w : World) : Prop where
  bel : Below w0.heap.size w0 w
  zo : ZS w base vo p
  bc : Box w gc #[vb] 80
  bg : Box w gl #[.slice L ms.length cl] 33
  zb : ZS w base vb b
  sep : ∀ k, vb.ownBlock = some k → vo.ownBlock ≠ some k
  hb : base ≤ w.heap.size
theorem EaI.step {w0 w w' : World} {gc gl base : Nat} {L : Option Addr} {cl : Nat} {ms : ML} {vb vo : Value} {b p : SL} (h : EaI w0 gc gl base L cl ms vb vo b p w) (d : Below w.heap.size w w') : EaI w0 gc gl base L cl ms vb vo b p w' :=
  ⟨RowKit.Below.trans h.bel (d.mono h.bel.size), h.zo.step d, h.bc.step d, h.bg.step d, h.zb.step d, h.sep, Nat.le_trans h.hb d.size⟩

theorem ea_child {w0 W w5 : World} {gc gl base : Nat} {L : Option Addr} {cl : Nat} {ms : ML} {vb vo v5 : Value} {b p : SL} {a m : Int} (hE : EaI w0 gc gl base L cl ms vb vo b p W) (hz5 : ZS w5 base v5 (p ++ [(a, m)])) (hg5 : W.grownBy w5 vo.ownBlock) (hb5 : v5.ownBlock = vo.ownBlock ∨ v5.ownBlock = some W.heap.size) (hgc : gc < base) (hgl : gl < base) (hw0 : w0.heap.size ≤ base) : EaI w0 gc gl base L cl ms vb v5 b (p ++ [(a, m)]) w5 := by
  have hbs := hE.hb
  have lo := fun k hk => (World.ownsRow.lt hE.zo k hk).1
  refine ⟨hE.bel.grown hg5 hE.bel.size (fun k hk => by have := lo k hk; omega), hz5, (hg5.block gc (by omega) (fun e => by have := lo gc e.symm; omega)).trans hE.bc, (hg5.block gl (by omega) (fun e => by have := lo gl e.symm; omega)).trans hE.bg, World.ownsRow.kept hE.zb hg5 ?_, fun k hk => ?_, Nat.le_trans hbs hg5.size⟩
  · rcases hx : vb.ownBlock with _ | k
    · exact .inl rfl
    · exact .inr fun e => hE.sep k hx e.symm
  · rcases hb5 with e | e
    · rw [e]; exact hE.sep k hk
    · rw [e]
      intro e2
      injection e2 with e2
      have := (World.ownsRow.lt hE.zb k hk).2
      omega
theorem ea_next {w0 wr w5 u9 : World} {gc gl base : Nat} {L : Option Addr} {cl : Nat} {ms : ML} {vb2 vb9 vo v5 : Value} {b2 b9 p : SL} {a m : Int} (hgc0 : w0.heap.size ≤ gc) (hgc : gc < base) (hgl : gl < base) (hgg : gl ≠ gc)
    (hE : EaI w0 gc gl base L cl ms vb2 vo b2 p wr) (CW : Chg gc vo.ownBlock wr w5) (hv5 : v5.ownBlock = vo.ownBlock ∨ ∃ k, v5.ownBlock = some k ∧ wr.heap.size ≤ k) (hzo5 : ZS w5 base vo p) (hz5 : ZS w5 base v5 (p ++ [(a, m)])) (hch : Chg gc v5.ownBlock w5 u9)
    (hc9 : Box u9 gc #[vb9] 80) (hz9 : ZS u9 base vb9 b9) (hzo9 : ZS u9 base v5 (p ++ [(a, m)])) (hown9 : ∀ k, vb9.ownBlock = some k → vb2.ownBlock = some k ∨ w5.heap.size ≤ k) :
    EaI w0 gc gl base L cl ms vb9 vo b9 p u9 ∧ Chg gc vo.ownBlock wr u9 := by
  have hbs := hE.hb
  have lo := fun k hk => World.ownsRow.lt hE.zo k hk
  have C : Chg gc vo.ownBlock wr u9 := CW.trans hch fun k e => by
    rcases hv5 with h | ⟨k', h, hk'⟩
    · exact .inl (by rw [← h]; exact e)
    · rw [h] at e
      injection e with e
      exact .inr (by omega)
  refine ⟨⟨RowKit.Below.trans hE.bel (C.below hgc0 (fun k hk => by have := (lo k hk).1; omega) hE.bel.size), zs_after hzo5 hz5 hch hzo9 hgc, hc9, (C.block gl (by omega) hgg fun e => by have := (lo gl e.symm).1; omega).trans hE.bg, hz9, fun k hk => ?_, Nat.le_trans hbs C.size⟩, C⟩
  rcases hown9 k hk with h | h
  · exact hE.sep k h
  · intro e
    have h1 := (lo k e).2
    have h2 := CW.size
    omega

set_option maxRecDepth 100000 in
set_option maxHeartbeats 4000000 in
theorem eachOrder_any (w0 : World) (gc gl base : Nat) (L : Option Addr) (cl : Nat) (ms : ML) (H A : Option Addr) (ch c : Nat) (hs : List Int) (l : FL) (hfew : FewA l) (hl1 : 1 ≤ l.length) (hzm : szM ms ≤ 1048576) (hm5 : ms.length ≤ 5) (hgc0 : w0.heap.size ≤ gc) (hgc : gc < base) (hgl0 : w0.heap.size ≤ gl) (hgl : gl < base) (hgg : gl ≠ gc) (hm0 : RM w0 L ms) (hf0 : RF w0 A l) :
    ∀ (f : Nat) (p b : SL) (Ao : Option Addr) (co : Nat) (Ab : Option Addr) (cb : Nat) (w : World), p.length + f = l.length → InP l ms p → b.length ≤ 4 → EaI w0 gc gl base L cl ms (.slice Ab b.length cb) (.slice Ao p.length co) b p w →
    Calls Try.prog 69 #[.slice Ao p.length co, .slice L ms.length cl, .agg #[.slice H hs.length ch, .slice A l.length c], .func (.func 59) #[] #[], .func (.func 70) #[] #[.pointer (some ⟨gc, 0, none⟩), .pointer (some ⟨gl, 0, none⟩)]] w (EaO gc base (.slice Ab b.length cb) (.slice Ao p.length co) p (srch ms l f p b) w) := by
  obtain ⟨i0, hi, hz0, hz1, hz2⟩ := info_parts step_info
  have hl4 := hfew.1
  have hl4' : (l.length : Int) ≤ 4 := by omega
  have hm5' : (ms.length : Int) ≤ 5 := by omega
  have HFW := Lib.hid hfew
  have HM0 := Lib.hid hm0
  have HF0 := Lib.hid hf0
  clear hfew hm0 hf0
  intro f
  induction f with
  | zero =>
    intro p b Ao co Ab cb w hpf hin hb4 hI
    obtain ⟨g, c', hv⟩ := hI.zo.some (by omega)
    injection hv with e1 e2 e3
    subst e1 e3
    have HI := Lib.hid hI
    have b0 := below_alloc w (.cells #[.slice H hs.length ch, .slice A l.length c] 37)
    have B0 := Lib.hid b0
    have XQ := Lib.hid (Box.new w #[.slice H hs.length ch, .slice A l.length c] 37)
    have HI1 := hI.step b0
    have d0 : ((p.length : Int) == (l.length : Int)) = true := by simp; omega
    have XF := Lib.hid (found_any gc gl base L cl ms ⟨g, 0, none⟩ co p b Ab cb hzm hb4 (by omega) hgc _ HI1.hb HI1.bc HI1.bg HI1.zb HI1.zo.rz (HM0.out.step HI1.bel))
    have q1 := XQ.out.cell 1
    simp only [List.getElem?_toArray, List.getElem?_cons_zero, List.getElem?_cons_succ] at q1
    show Calls _ _ _ w (EaO gc base _ _ p (better ms b p) w)
    generalize better ms b p = x at XF ⊢
    clear hI HI1 hpf hin b0
    go_enter Try.func69, Try.ntmps69
    go_wp2_with fail
    refine XF.out.mono ?_
    rintro e u ⟨rfl, A2, c2, hb1, hz1', hch, hown⟩
    have R := Lib.hid (show EaO gc base (.slice Ab b.length cb) (.slice (some ⟨g, 0, none⟩) p.length co) p x w (.returned (.tuple #[])) u from
      ⟨rfl, A2, c2, hb1, hz1', hch.zs (HI.out.step B0.out).zo hgc (fun k _ e => by cases e), ((Chg.of_below B0.out).trans hch (fun k e => by cases e)), fun k hk => by
        rcases hown k hk with h1 | h1
        · exact .inl h1
        · exact .inr (by have := B0.out.size; omega)⟩)
    clear hb1 hz1' hch hown
    go_wp2
    go_end0
    exact R.out
  | succ f ih0 =>
    intro p b Ao co Ab cb w hpf hin hb4 hI
    have IH := Lib.hid ih0
    have HI := Lib.hid hI
    have HPF := Lib.hid hpf
    have HIN := Lib.hid hin
    have hp4 : p.length ≤ 4 := by omega
    have hpl : p.length < l.length := by omega
    have d0 : ((p.length : Int) == (l.length : Int)) = false := by simp; omega
    have b0 := below_alloc w (.cells #[.slice H hs.length ch, .slice A l.length c] 37)
    have B0 := Lib.hid b0
    have XQ := Lib.hid (Box.new w #[.slice H hs.length ch, .slice A l.length c] 37)
    have HI1 := Lib.hid (hI.step b0)
    have XN := Lib.hid (nextSteps_any Ao co p L cl ms H A ch c hs l hp4 HFW.out hin hzm hm5 _ HI1.out.zo.rz (HM0.out.step HI1.out.bel) (HF0.out.step HI1.out.bel))
    have NL : (nextS ms l p).length ≤ 20 := by have := nextS_len ms l p; have : l.length * ms.length ≤ 4 * 5 := Nat.mul_le_mul hl4 hm5; omega
    have NM := Lib.hid (nextS_mem ms l p)
    obtain ⟨F, hF⟩ : ∃ F : SL → Int × Int → SL, F = fun b st => srch ms l f (p ++ [st]) b := ⟨_, rfl⟩
    have EF := Lib.hid (show srch ms l (f + 1) p b = (nextS ms l p).foldl F b by rw [hF]; rfl)
    have FE := Lib.hid (show ∀ b st, F b st = srch ms l f (p ++ [st]) b from fun b st => by rw [hF])
    have FL_ := Lib.hid (show ∀ b st, b.length ≤ 4 → (F b st).length ≤ 4 from fun b st hb => by rw [hF]; exact srch_len ms l f _ b hb (by rw [List.length_append, List.length_singleton]; omega))
    rw [EF.out]
    generalize nextS ms l p = nx at XN NL NM EF ⊢
    have hnl' : (nx.length : Int) ≤ 20 := by omega
    have q0 := XQ.out.cell 0
    have q1 := XQ.out.cell 1
    simp only [List.getElem?_toArray, List.getElem?_cons_zero, List.getElem?_cons_succ] at q0 q1
    clear hI hin hpf ih0 hF b0
    go_enter Try.func69, Try.ntmps69
    go_wp2_with fail
    refine XN.out.mono ?_
    rintro e u ⟨v, rfl, hzn, d⟩
    obtain ⟨An, cn, rfl⟩ := hzn.form
    have U1 := Lib.hid (HI1.out.step d)
    have C1 := Lib.hid (show Chg gc (Value.slice Ao p.length co).ownBlock w u from Chg.of_below (step B0.out d))
    have XQ1 := Lib.hid (XQ.out.step d)
    have ZN := Lib.hid (show ZS u (w.heap.size + 1) (.slice An nx.length cn) nx from hzn.lo (by simp))
    clear hzn d q0 q1
    go_wp2
    go_loopw [11, 27] (fun _ iv wr => ∃ (k : Nat) (A2 : Option Addr) (c2 : Nat) (b2 : SL), k ≤ nx.length ∧ iv = .int .i64 k ∧ Hid (b2 = (nx.take k).foldl F b) ∧ b2.length ≤ 4 ∧ Hid (EaI w0 gc gl base L cl ms (.slice A2 b2.length c2) (.slice Ao p.length co) b2 p wr) ∧ Hid (Chg gc (Value.slice Ao p.length co).ownBlock w wr) ∧ Hid (∀ k, (Value.slice A2 b2.length c2).ownBlock = some k → (Value.slice Ab b.length cb).ownBlock = some k ∨ w.heap.size ≤ k) ∧ Hid (Box wr w.heap.size #[.slice H hs.length ch, .slice A l.length c] 37) ∧ Hid (ZS wr (w.heap.size + 1) (.slice An nx.length cn) nx)) (fun _ iv _ => nx.length - (intOf iv).toNat)
    case atStart => exact ⟨0, Ab, cb, b, by omega, rfl, Lib.hid rfl, hb4, U1, C1, Lib.hid fun k hk => .inl hk, XQ1, ZN⟩
    case round =>
      obtain ⟨k, A2, c2, b2, hk, rfl, hb2, hbl2, hE, hC, hO, xq, zn⟩ := hrel
      have hk0 : (0 : Int) ≤ (k : Int) := by omega
      by_cases hlt : k < nx.length
      · have hk1 : (k : Int) < (nx.length : Int) := by omega
        generalize hf : nx.getD k (0, 0) = st
        obtain ⟨a, m⟩ := st
        have TS := Lib.hid (show (nx.take (k + 1)).foldl F b = F b2 (a, m) by rw [take_snoc nx hlt hf, List.foldl_append, ← hb2.out]; rfl)
        have SO := (NM.out a m).1 (by rw [← hf, List.getD_eq_getElem?_getD, List.getElem?_eq_getElem hlt]; exact List.getElem_mem _)
        have IN := Lib.hid (HIN.out.snoc SO)
        have LL := Lib.hid (show (p ++ [(a, m)]).length = p.length + 1 by simp)
        obtain ⟨bn, on_, rfl, n1, e0, e1⟩ := zn.out.rz.at_ hlt hf
        have XCH := Lib.hid fun (A5 : Option Addr) (c5 : Nat) (w5 : World) (hE5 : EaI w0 gc gl base L cl ms (.slice A2 b2.length c2) (.slice A5 (p ++ [(a, m)]).length c5) b2 (p ++ [(a, m)]) w5) (W : World) (hW : Below w5.heap.size w5 W) => (show Calls Try.prog 69 #[.slice A5 (p.length + 1) c5, .slice L ms.length cl, .agg #[.slice H hs.length ch, .slice A l.length c], .func (.func 59) #[] #[], .func (.func 70) #[] #[.pointer (some ⟨gc, 0, none⟩), .pointer (some ⟨gl, 0, none⟩)]] W (EaO gc base (.slice A2 b2.length c2) (.slice A5 (p.length + 1) c5) (p ++ [(a, m)]) (F b2 (a, m)) W) by
          have := IH.out (p ++ [(a, m)]) b2 A5 c5 A2 c2 W (by rw [LL.out]; have := HPF.out; omega) IN.out hbl2 (hE5.step hW)
          rw [← FE.out, LL.out] at this
          exact this)
        have L9 := FL_.out b2 (a, m) hbl2
        generalize F b2 (a, m) = b9 at TS XCH L9
        obtain ⟨W0, hW0⟩ : ∃ W0, W0 = wr.alloc (.cells #[.int .i64 a, .int .i64 m] 68) := ⟨_, rfl⟩
        have bW : Below wr.heap.size wr W0 := by rw [hW0]; exact below_alloc _ _
        have XS : Box W0 wr.heap.size #[.int .i64 a, .int .i64 m] 68 := by rw [hW0]; exact Box.new _ _ _
        have hWs : wr.heap.size < W0.heap.size := XS.lt
        have hxw : w.heap.size < wr.heap.size := xq.out.lt
        have bA := below_alloc W0 (.cells #[.int .i64 a, .int .i64 m] 68)
        have XQ3 := xq.out.step bW
        have s0 := XS.cell 0
        have s1 := XS.cell 1
        have q0 := XQ3.cell 0
        have q1 := XQ3.cell 1
        have s07 := (XS.step bA).cell 0
        have s17 := (XS.step bA).cell 1
        have q07 := (XQ3.step bA).cell 0
        have q17 := (XQ3.step bA).cell 1
        have t0 := (Box.new W0 #[.int .i64 a, .int .i64 m] 68).cell 0
        have t1 := (Box.new W0 #[.int .i64 a, .int .i64 m] 68).cell 1
        simp only [List.getElem?_toArray, List.getElem?_cons_zero, List.getElem?_cons_succ] at s0 s1 q0 q1 s07 s17 q07 q17 t0 t1
        have T0 := Lib.hid t0
        have T1 := Lib.hid t1
        have EA := Lib.hid (hE.out.step (step bW bA))
        have BWA := Lib.hid (step bW bA)
        have XQ4 := Lib.hid (XQ3.step bA)
        have HBS := Lib.hid EA.out.hb
        have hgw : gc < w.heap.size := by have := HI.out.hb; omega
        have hvo := Lib.hid fun k hk => (World.ownsRow.lt HI.out.zo k hk).2
        clear hf SO bW XS XQ3 bA t0 t1
        go_wp2
        rw [← hW0]
        clear hW0 e0 e1
        go_region_law (first
          | (refine step_appendS (by rfl) _ _ 80 (by rfl) base i0 Try.underlying80 hi hz0 hz1 hz2 (.slice Ao p.length co) p a m (by rfl) ⟨W0.heap.size, 0, none⟩ (by rfl) (by first | exact EA.out.zo | exact World.ownsRow.drew EA.out.zo) (by first | exact T0.out | (simpa using T0.out)) (by first | exact T1.out | (simpa using T1.out)) (by omega) (by first | exact HBS.out | simpa using HBS.out) ?_
             intro v5 w5 hz5 hzo5 hg5 hb5
             obtain ⟨A5, c5, rfl⟩ := hz5.form
             have hg6 : (W0.alloc (.cells #[.int .i64 a, .int .i64 m] 68)).grownBy w5 (Value.slice Ao p.length co).ownBlock := ⟨hg5.os, hg5.tape, hg5.output, hg5.size, hg5.block⟩
             have E5 := Lib.hid (ea_child EA.out hz5 hg6 hb5 hgc hgl (by omega))
             have ZO5 := Lib.hid hzo5
             have CW := Lib.hid (show Chg gc (Value.slice Ao p.length co).ownBlock wr w5 from (Chg.of_below BWA.out).trans (Chg.of_grown hg6) (fun k e => .inl e))
             have HV5 := Lib.hid (show (Value.slice A5 (p ++ [(a, m)]).length c5).ownBlock = (Value.slice Ao p.length co).ownBlock ∨ ∃ k, (Value.slice A5 (p ++ [(a, m)]).length c5).ownBlock = some k ∧ wr.heap.size ≤ k from hb5.imp id fun e => ⟨_, e, by have := BWA.out.size; exact this⟩)
             have X5 := (hg6.block w.heap.size (by have := XQ4.out.lt; exact this) (fun e => by have := hvo.out w.heap.size e.symm; omega)).trans XQ4.out
             have q06 := Box.cell (show Box w5 w.heap.size #[.slice H hs.length ch, .slice A l.length c] 37 from X5) 0
             have q16 := Box.cell (show Box w5 w.heap.size #[.slice H hs.length ch, .slice A l.length c] 37 from X5) 1
             simp only [List.getElem?_toArray, List.getElem?_cons_zero, List.getElem?_cons_succ] at q06 q16
             clear hz5 hzo5 hg5 hb5 hg6 X5)
          | (go_simp; go_at_call 69
             refine (XCH.out A5 c5 w5 E5.out _ (by first | exact Below.refl _ _ | exact below_drew _)).mono ?_
             rintro e u9 ⟨rfl, A9, c9, hc9, hz9, hzo9, hch9, hown9⟩
             have hch : Chg gc (Value.slice A5 (p ++ [(a, m)]).length c5).ownBlock w5 u9 := by
               rw [LL.out]
               first | exact hch9 | exact (Chg.of_below (below_drew _)).trans hch9 (fun k e => .inl e)
             have EN := Lib.hid (ea_next hgc0 hgc hgl hgg hE.out CW.out HV5.out ZO5.out E5.out.zo hch hc9 hz9 (by rw [LL.out]; exact hzo9) hown9)
             have ON := Lib.hid (show ∀ k, (Value.slice A9 b9.length c9).ownBlock = some k → (Value.slice Ab b.length cb).ownBlock = some k ∨ w.heap.size ≤ k from fun k hk => by
               rcases hown9 k hk with h | h
               · exact hO.out k h
               · exact .inr (by have h2 := CW.out.size; have h3 : w5.heap.size ≤ k := h; omega))
             clear hc9 hz9 hzo9 hch9 hown9 hch))
        all_goals
          have CN := Lib.hid (hC.out.trans EN.out.2 (fun k e => .inl e))
          have XN9 := Lib.hid (show Box u9 w.heap.size #[.slice H hs.length ch, .slice A l.length c] 37 from (EN.out.2.block w.heap.size hxw (by omega) (fun e => by have := hvo.out w.heap.size e.symm; omega)).trans xq.out)
          have ZN9 := Lib.hid (EN.out.2.zs zn.out (by omega) (fun k hk e => by have h1 := (World.ownsRow.lt zn.out k hk).1; have h2 := hvo.out k e; omega))
          clear s0 s1 q0 q1 s07 s17 q07 q17 q06 q16
          go_wp2
          go_roundw
          case rel => exact ⟨k + 1, A9, c9, b9, by omega, by go_num, Lib.hid TS.out.symm, L9, Lib.hid EN.out.1, CN, ON, XN9, ZN9⟩
          case measure => simp [intOf]; omega
      · obtain rfl : k = nx.length := by omega
        have BE := Lib.hid (show b2 = nx.foldl F b by rw [hb2.out, take_all])
        have R := Lib.hid (show EaO gc base (.slice Ab b.length cb) (.slice Ao p.length co) p (nx.foldl F b) w (.returned (.tuple #[])) wr from by
          rw [← BE.out]
          exact ⟨rfl, A2, c2, hE.out.bc, hE.out.zb, hE.out.zo, hC.out, hO.out⟩)
        go_wp2
        go_end0
        exact R.out
end Go.Proofs.Ytighalbnpgmdfaa

namespace Go.Proofs.Ytighalbnpgmdfaa
open Go.ChangeShapes Go.WideShapes Go.ChangeAt Go.RowKit Go.Sort
set_option linter.unusedVariables false
set_option linter.unusedSimpArgs false

def chS (s : List Int) (ms : ML) (hs : List Int) (l : FL) : SL := if fineB s ms hs l then srch ms l l.length [] [] else []
def chN (s : List Int) (ms : ML) (hs : List Int) (l : FL) : Int := costN ms (chS s ms hs l)
def chB (s : List Int) (ms : ML) (hs : List Int) (l : FL) : Bool := decide (0 < (chS s ms hs l).length)
theorem CheapestOrder_len (s : List Int) (ms : ML) (hs : List Int) (l : FL) : (chS s ms hs l).length ≤ 1048576 := by
  unfold chS
  split
  · rename_i h
    have h1 := (fine_of h).2.1.1
    have h2 := srch_len ms l l.length [] [] (by simp) (by simpa using h1)
    omega
  · simp
/-- Steps of the call's own, a number, and whether. -/
def ChI (w : World) (x : SL) (n : Int) (b : Bool) (e : Ending) (w' : World) : Prop := ∃ A c, e = .returned (.tuple #[.slice A x.length c, .int .i64 n, .bool b]) ∧ ZS w' w.heap.size (.slice A x.length c) x ∧ Below w.heap.size w w'
def SV (w : World) (lo hi : Nat) (A : Option Addr) (l : SL) : Prop := Stps w lo hi A l ∧ hi ≤ w.heap.size
theorem SV.keep {w w' : World} {lo hi : Nat} {A : Option Addr} {l : SL} (h : SV w lo hi A l) (hk : ∀ b, lo ≤ b → b < hi → w'.heap[b]? = w.heap[b]?) (hs : w.heap.size ≤ w'.heap.size) : SV w' lo hi A l := ⟨h.1.keep hk, Nat.le_trans h.2 hs⟩
theorem SV.step {w w' : World} {lo hi : Nat} {A : Option Addr} {l : SL} (h : SV w lo hi A l) (b : Below w.heap.size w w') : SV w' lo hi A l := h.keep (fun q _ hq => b.block q (by have := h.2; omega)) b.size
theorem SV.rz {w : World} {lo hi : Nat} {A : Option Addr} {l : SL} (h : SV w lo hi A l) : RZ w A l := h.1.mono (Nat.zero_le _) h.2
def ChV (w : World) (x : SL) (n : Int) (b : Bool) (e : Ending) (w' : World) : Prop := ∃ A c, e = .returned (.tuple #[.slice A x.length c, .int .i64 n, .bool b]) ∧ SV w' w.heap.size w'.heap.size A x ∧ Below w.heap.size w w'
theorem ChI.toP {w : World} {x : SL} {n : Int} {b : Bool} {e : Ending} {w' : World} (h : ChI w x n b e w') : ∃ A c, e = .returned (.tuple #[.slice A x.length c, .int .i64 n, .bool b]) ∧ PZ w' w.heap.size w'.heap.size A x ∧ Below w.heap.size w w' := by
  obtain ⟨A, c, he, hz, hb⟩ := h
  exact ⟨A, c, he, hz.pz hb.size, hb⟩
theorem ChV.toP {w : World} {x : SL} {n : Int} {b : Bool} {e : Ending} {w' : World} (h : ChV w x n b e w') : ∃ A c, e = .returned (.tuple #[.slice A x.length c, .int .i64 n, .bool b]) ∧ SV w' w.heap.size w'.heap.size A x ∧ Below w.heap.size w w' := h

set_option maxRecDepth 100000 in
set_option maxHeartbeats 2000000 in
theorem spec_CheapestOrder (S : Option Addr) (cs : Nat) (s : List Int) (L : Option Addr) (cl : Nat) (ms : ML) (H A : Option Addr) (ch c : Nat) (hs : List Int) (l : FL) (hls : s.length ≤ 1048576) (hzm : szM ms ≤ 1048576) (hh : hs.length ≤ 1048576) (hz : szF l ≤ 1048576) (w : World) (h : RI w S s) (h1 : RM w L ms) (h2 : RI w H hs) (h3 : RF w A l) :
    Calls Try.prog 34 #[.slice S s.length cs, .slice L ms.length cl, .agg #[.slice H hs.length ch, .slice A l.length c]] w (ChV w (chS s ms hs l) (chN s ms hs l) (chB s ms hs l)) := by
  have XQ := Lib.hid (Box.new w #[.slice H hs.length ch, .slice A l.length c] 37)
  have B0 := Lib.hid (below_alloc w (.cells #[.slice H hs.length ch, .slice A l.length c] 37))
  have X1 := Lib.hid (l6Fine_any S cs s L cl ms H A ch c hs l hls hzm hh hz _ (h.step B0.out) (h1.step B0.out) (h2.step B0.out) (h3.step B0.out))
  have q0 := XQ.out.cell 0
  have q1 := XQ.out.cell 1
  simp only [List.getElem?_toArray, List.getElem?_cons_zero, List.getElem?_cons_succ] at q0 q1
  have HM := Lib.hid h1
  have HF := Lib.hid h3
  clear h h1 h2 h3
  by_cases ha : fineB s ms hs l = true
  · have HA := Lib.hid ha
    obtain ⟨hm5, hfew, hl1⟩ := fine_of ha
    have hl4 := hfew.1
    have E1 : chS s ms hs l = srch ms l l.length [] [] := by unfold chS; rw [if_pos ha]
    have XL := srch_len ms l l.length [] [] (by simp) (by simpa using hl4)
    have XS := Lib.hid fun (lo : Nat) (pa : Addr) (Ab Bb : Option Addr) (W : World) (hlo : lo ≤ W.heap.size) (hW : Below w.heap.size w W) => (show Calls Try.prog 67 #[.slice L ms.length cl, .agg #[.slice H hs.length ch, .slice A l.length c], .slice (some pa) 0 0, .slice Ab 0 0, .slice Bb 0 0] W (SrO W lo (srch ms l l.length [] [])) from
      l6Search_any L cl ms H A ch c hs l hfew hl1 hzm hm5 l.length lo pa 0 [] [] [] Ab 0 Bb 0 W (by simp) (InP.nil l ms) rfl (by simp) hlo (HM.out.step hW) (HF.out.step hW) (RZ.nil _ _) (fun hne => absurd rfl hne) (fun hne => absurd rfl hne))
    have XO0 := fun (x : SL) (A2 : Option Addr) (c2 : Nat) (W : World) (hx : x.length ≤ 4) (hW : Below w.heap.size w W) (hr : RZ W A2 x) => spec_OrderCost L cl ms A2 c2 x hzm (by omega) W (HM.out.step hW) hr
    unfold chN chB
    rw [E1]
    generalize srch ms l l.length [] [] = x at XS XL ⊢
    have XO := Lib.hid (XO0 x)
    clear ha hfew E1 XO0
    generalize costN ms x = n at XO ⊢
    by_cases hx : x = []
    · subst hx
      rw [show decide (0 < ([] : SL).length) = false by decide]
      go_enter Try.func34, Try.ntmps34
      go_wp2_with fail
      refine X1.out.mono ?_
      rintro e u ⟨he, d⟩
      rw [HA.out] at he
      subst he
      have D := Lib.hid (step B0.out d)
      have XQ2 := Lib.hid (XQ.out.step d)
      have q0 := XQ2.out.cell 0
      have q1 := XQ2.out.cell 1
      simp only [List.getElem?_toArray, List.getElem?_cons_zero, List.getElem?_cons_succ] at q0 q1
      have D3 := Lib.hid (step D.out (step (step (below_alloc u (.cells #[] 68)) (below_alloc _ (.cells #[] 3))) (below_alloc _ (.cells #[] 68))))
      clear d
      go_wp2_with fail
      refine (XS.out w.heap.size _ _ _ _ D3.out.size D3.out).mono ?_
      rintro e u2 ⟨A2, c2, rfl, hst, d⟩
      have D4 := Lib.hid (step D3.out d)
      have HS := Lib.hid hst
      have XC := Lib.hid (XO.out A2 c2 u2 XL D4.out (hst.mono (Nat.zero_le _) (Nat.le_refl _)))
      clear hst d q0 q1
      go_wp2_with fail
      refine XC.out.mono ?_
      rintro e u3 ⟨rfl, d⟩
      have D5 := Lib.hid (step D4.out d)
      clear d
      go_wp2
      go_ret3
      exact ⟨A2, c2, rfl, ⟨fun hne => absurd rfl hne, Nat.le_refl _⟩, D5.out⟩
    · have hxp : 0 < x.length := List.length_pos_iff.2 hx
      have e1 : decide ((0 : Int) < (x.length : Int)) = true := by simp; omega
      have e2 : decide (0 < x.length) = true := by simpa using hxp
      have e3 : (0 : Int) < (x.length : Int) := by omega
      rw [e2]
      go_enter Try.func34, Try.ntmps34
      go_wp2_with fail
      refine X1.out.mono ?_
      rintro e u ⟨he, d⟩
      rw [HA.out] at he
      subst he
      have D := Lib.hid (step B0.out d)
      have XQ2 := Lib.hid (XQ.out.step d)
      have q0 := XQ2.out.cell 0
      have q1 := XQ2.out.cell 1
      simp only [List.getElem?_toArray, List.getElem?_cons_zero, List.getElem?_cons_succ] at q0 q1
      have D3 := Lib.hid (step D.out (step (step (below_alloc u (.cells #[] 68)) (below_alloc _ (.cells #[] 3))) (below_alloc _ (.cells #[] 68))))
      clear d
      go_wp2_with fail
      refine (XS.out w.heap.size _ _ _ _ D3.out.size D3.out).mono ?_
      rintro e u2 ⟨A2, c2, rfl, hst, d⟩
      have D4 := Lib.hid (step D3.out d)
      have HS := Lib.hid hst
      have XC := Lib.hid (XO.out A2 c2 u2 XL D4.out (hst.mono (Nat.zero_le _) (Nat.le_refl _)))
      clear hst d q0 q1
      go_wp2_with fail
      refine XC.out.mono ?_
      rintro e u3 ⟨rfl, d⟩
      have D5 := Lib.hid (step D4.out d)
      have HS5 := Lib.hid (show SV u3 w.heap.size u3.heap.size A2 x from ⟨(Stps.below HS.out d (Nat.le_refl _)).mono (Nat.le_refl _) d.size, Nat.le_refl _⟩)
      clear d
      go_wp2
      go_ret3
      exact ⟨A2, c2, rfl, HS5.out, D5.out⟩
  · have HA := Lib.hid (show fineB s ms hs l = false by simpa using ha)
    have E1 : chS s ms hs l = [] := by unfold chS; rw [if_neg ha]
    unfold chN chB
    rw [E1, show decide (0 < ([] : SL).length) = false by decide, show costN ms [] = 0 by rfl]
    clear ha E1
    go_enter Try.func34, Try.ntmps34
    go_wp2_with fail
    refine X1.out.mono ?_
    rintro e u ⟨he, d⟩
    rw [HA.out] at he
    subst he
    have D2 := Lib.hid (step B0.out d)
    clear d
    go_wp2
    go_ret3
    exact ⟨_, 0, rfl, ⟨fun hne => absurd rfl hne, Nat.le_refl _⟩, step D2.out (below_alloc _ _)⟩

set_option maxRecDepth 100000 in
set_option maxHeartbeats 2000000 in
theorem impl_CheapestOrder (S : Option Addr) (cs : Nat) (s : List Int) (L : Option Addr) (cl : Nat) (ms : ML) (H A : Option Addr) (ch c : Nat) (hs : List Int) (l : FL) (hls : s.length ≤ 1048576) (hzm : szM ms ≤ 1048576) (hh : hs.length ≤ 1048576) (hz : szF l ≤ 1048576) (w : World) (h : RI w S s) (h1 : RM w L ms) (h2 : RI w H hs) (h3 : RF w A l) :
    Calls Try.prog 35 #[.slice S s.length cs, .slice L ms.length cl, .agg #[.slice H hs.length ch, .slice A l.length c]] w (ChI w (chS s ms hs l) (chN s ms hs l) (chB s ms hs l)) := by
  have b1 := below_alloc w (.cells #[.slice L ms.length cl] 33)
  have b2 := below_alloc (w.alloc (.cells #[.slice L ms.length cl] 33)) (.cells #[.slice H hs.length ch, .slice A l.length c] 37)
  have B0 := Lib.hid (step b1 b2)
  have XL := Lib.hid ((Box.new w #[.slice L ms.length cl] 33).step b2)
  have XQ0 := Box.new (w.alloc (.cells #[.slice L ms.length cl] 33)) #[.slice H hs.length ch, .slice A l.length c] 37
  rw [al_size] at XQ0
  have XQ := Lib.hid XQ0
  have X1 := Lib.hid (fineI_any S cs s L cl ms H A ch c hs l hls hzm hh hz _ (h.step B0.out) (h1.step B0.out) (h2.step B0.out) (h3.step B0.out))
  have q0 := XQ.out.cell 0
  have q1 := XQ.out.cell 1
  have l0 := XL.out.cell 0
  simp only [List.getElem?_toArray, List.getElem?_cons_zero, List.getElem?_cons_succ] at q0 q1 l0
  have HM := Lib.hid h1
  have HF := Lib.hid h3
  clear h h1 h2 h3 b1 b2 XQ0
  by_cases ha : fineB s ms hs l = true
  · have HA := Lib.hid ha
    obtain ⟨hm5, hfew, hl1⟩ := fine_of ha
    have hl4 := hfew.1
    have E1 : chS s ms hs l = srch ms l l.length [] [] := by unfold chS; rw [if_pos ha]
    have XLn := srch_len ms l l.length [] [] (by simp) (by simpa using hl4)
    have XE := Lib.hid fun (gc : Nat) (hgc : w.heap.size < gc) (W : World) (hE : EaI w gc w.heap.size (gc + 1) L cl ms (.slice none 0 0) (.slice (some ⟨gc + 1, 0, none⟩) 0 0) [] [] W) => (show Calls Try.prog 69 #[.slice (some ⟨gc + 1, 0, none⟩) 0 0, .slice L ms.length cl, .agg #[.slice H hs.length ch, .slice A l.length c], .func (.func 59) #[] #[], .func (.func 70) #[] #[.pointer (some ⟨gc, 0, none⟩), .pointer (some ⟨w.heap.size, 0, none⟩)]] W (EaO gc (gc + 1) (.slice none 0 0) (.slice (some ⟨gc + 1, 0, none⟩) 0 0) [] (srch ms l l.length [] []) W) from
      eachOrder_any w gc w.heap.size (gc + 1) L cl ms H A ch c hs l hfew hl1 hzm hm5 (by omega) (by omega) (Nat.le_refl _) (by omega) (by omega) HM.out HF.out l.length [] [] (some ⟨gc + 1, 0, none⟩) 0 none 0 W (by simp) (InP.nil l ms) (by simp) hE)
    have XO0 := fun (x : SL) (A2 : Option Addr) (c2 : Nat) (W : World) (hx : x.length ≤ 4) (hW : Below w.heap.size w W) (hr : RZ W A2 x) => impl_OrderCost L cl ms A2 c2 x hzm (by omega) W (HM.out.step hW) hr
    unfold chN chB
    rw [E1]
    generalize srch ms l l.length [] [] = x at XE XLn ⊢
    have XO := Lib.hid (XO0 x)
    clear ha hfew E1 XO0
    generalize costN ms x = n at XO ⊢
    by_cases hx : x = []
    · subst hx
      rw [show decide (0 < ([] : SL).length) = false by decide]
      go_enter Try.func35, Try.ntmps35
      go_wp2_with fail
      refine X1.out.mono ?_
      rintro e u ⟨he, d⟩
      rw [HA.out] at he
      subst he
      have D := Lib.hid (step B0.out d)
      have XQ2 := Lib.hid (XQ.out.step d)
      have XL2 := Lib.hid (XL.out.step d)
      have q0 := XQ2.out.cell 0
      have q1 := XQ2.out.cell 1
      have l0 := XL2.out.cell 0
      simp only [List.getElem?_toArray, List.getElem?_cons_zero, List.getElem?_cons_succ] at q0 q1 l0
      have hwu : w.heap.size + 1 < u.heap.size := XQ2.out.lt
      have hwu0 : w.heap.size < u.heap.size := XL2.out.lt
      have d1 := below_alloc u (.cells #[.slice none 0 0] 80)
      have d2 := below_alloc (u.alloc (.cells #[.slice none 0 0] 80)) (.cells #[] 68)
      have ZL0 := ZS.lit (u.alloc (.cells #[.slice none 0 0] 80)) (u.heap.size + 1) (by simp)
      rw [al_size] at ZL0
      have EI := Lib.hid (show EaI w u.heap.size w.heap.size (u.heap.size + 1) L cl ms (.slice none 0 0) (.slice (some ⟨u.heap.size + 1, 0, none⟩) 0 0) [] [] ((u.alloc (.cells #[.slice none 0 0] 80)).alloc (.cells #[] 68)) from
        ⟨step D.out (step d1 d2), ZL0, (Box.new u #[.slice none 0 0] 80).step d2, XL2.out.step (step d1 d2), ZS.nil _ _, fun k hk => by simp [Value.ownBlock] at hk, by simp⟩)
      have XE1 := Lib.hid (XE.out u.heap.size (by omega) _ EI.out)
      clear d d1 d2 ZL0
      go_wp2_with fail
      refine XE1.out.mono ?_
      rintro e u2 ⟨rfl, A2, c2, hbc, hzb, hzo, hch, hown⟩
      have WB := Lib.hid (show Below w.heap.size w u2 from EI.out.bel.trans (hch.below (by omega) (fun k hk => by have := own_some hk; omega) (by simp; omega)))
      have XL3 := (hch.block w.heap.size (by simp; omega) (by omega) (fun e => by have := own_some e.symm; omega)).trans EI.out.bg
      have c0 := hbc.cell 0
      have l0 := Box.cell (show Box u2 w.heap.size #[.slice L ms.length cl] 33 from XL3) 0
      simp only [List.getElem?_toArray, List.getElem?_cons_zero, List.getElem?_cons_succ] at c0 l0
      have k0 := cell_regrown c0
      have k1 := cell_regrown l0
      have HZ := Lib.hid hzb
      have XC := Lib.hid fun (W : World) (hW : Below u2.heap.size u2 W) => XO.out A2 c2 W XLn (step WB.out hW) (HZ.out.rz.step hW)
      clear hbc hzb hzo hch hown XL3 c0 l0 q0 q1
      go_wp2
      refine wp_region_quiet_below (by kernel_rfl) (by kernel_rfl) ?_
      repeat (go_big_quiet_step (first | (go_at_call 71; with_reducible exact Calls.regrown_of (XC.out _ (below_regrown _ _ _)))))
      refine wpQuiet_nil ?_
      intro u3 hw'
      have b6 : Below u2.heap.size u2 u3 := by obtain ⟨⟨dq, osq⟩, rfl⟩ := hw'; exact below_regrown _ _ _
      have D5 := Lib.hid (step WB.out b6)
      have Z5 := Lib.hid ((HZ.out.step b6).lo (show w.heap.size ≤ u.heap.size + 1 by omega))
      clear hw' b6 k0 k1
      go_wp2
      go_ret3
      exact ⟨A2, c2, rfl, Z5.out, D5.out⟩
    · have hxp : 0 < x.length := List.length_pos_iff.2 hx
      have e1 : decide ((0 : Int) < (x.length : Int)) = true := by simp; omega
      have e2 : decide (0 < x.length) = true := by simpa using hxp
      have e3 : (0 : Int) < (x.length : Int) := by omega
      rw [e2]
      go_enter Try.func35, Try.ntmps35
      go_wp2_with fail
      refine X1.out.mono ?_
      rintro e u ⟨he, d⟩
      rw [HA.out] at he
      subst he
      have D := Lib.hid (step B0.out d)
      have XQ2 := Lib.hid (XQ.out.step d)
      have XL2 := Lib.hid (XL.out.step d)
      have q0 := XQ2.out.cell 0
      have q1 := XQ2.out.cell 1
      have l0 := XL2.out.cell 0
      simp only [List.getElem?_toArray, List.getElem?_cons_zero, List.getElem?_cons_succ] at q0 q1 l0
      have hwu : w.heap.size + 1 < u.heap.size := XQ2.out.lt
      have hwu0 : w.heap.size < u.heap.size := XL2.out.lt
      have d1 := below_alloc u (.cells #[.slice none 0 0] 80)
      have d2 := below_alloc (u.alloc (.cells #[.slice none 0 0] 80)) (.cells #[] 68)
      have ZL0 := ZS.lit (u.alloc (.cells #[.slice none 0 0] 80)) (u.heap.size + 1) (by simp)
      rw [al_size] at ZL0
      have EI := Lib.hid (show EaI w u.heap.size w.heap.size (u.heap.size + 1) L cl ms (.slice none 0 0) (.slice (some ⟨u.heap.size + 1, 0, none⟩) 0 0) [] [] ((u.alloc (.cells #[.slice none 0 0] 80)).alloc (.cells #[] 68)) from
        ⟨step D.out (step d1 d2), ZL0, (Box.new u #[.slice none 0 0] 80).step d2, XL2.out.step (step d1 d2), ZS.nil _ _, fun k hk => by simp [Value.ownBlock] at hk, by simp⟩)
      have XE1 := Lib.hid (XE.out u.heap.size (by omega) _ EI.out)
      clear d d1 d2 ZL0
      go_wp2_with fail
      refine XE1.out.mono ?_
      rintro e u2 ⟨rfl, A2, c2, hbc, hzb, hzo, hch, hown⟩
      have WB := Lib.hid (show Below w.heap.size w u2 from EI.out.bel.trans (hch.below (by omega) (fun k hk => by have := own_some hk; omega) (by simp; omega)))
      have XL3 := (hch.block w.heap.size (by simp; omega) (by omega) (fun e => by have := own_some e.symm; omega)).trans EI.out.bg
      have c0 := hbc.cell 0
      have l0 := Box.cell (show Box u2 w.heap.size #[.slice L ms.length cl] 33 from XL3) 0
      simp only [List.getElem?_toArray, List.getElem?_cons_zero, List.getElem?_cons_succ] at c0 l0
      have k0 := cell_regrown c0
      have k1 := cell_regrown l0
      have HZ := Lib.hid hzb
      have XC := Lib.hid fun (W : World) (hW : Below u2.heap.size u2 W) => XO.out A2 c2 W XLn (step WB.out hW) (HZ.out.rz.step hW)
      clear hbc hzb hzo hch hown XL3 c0 l0 q0 q1
      go_wp2
      refine wp_region_quiet_below (by kernel_rfl) (by kernel_rfl) ?_
      repeat (go_big_quiet_step (first | (go_at_call 71; with_reducible exact Calls.regrown_of (XC.out _ (below_regrown _ _ _)))))
      refine wpQuiet_nil ?_
      intro u3 hw'
      have b6 : Below u2.heap.size u2 u3 := by obtain ⟨⟨dq, osq⟩, rfl⟩ := hw'; exact below_regrown _ _ _
      have D5 := Lib.hid (step WB.out b6)
      have Z5 := Lib.hid ((HZ.out.step b6).lo (show w.heap.size ≤ u.heap.size + 1 by omega))
      clear hw' b6 k0 k1
      go_wp2
      go_ret3
      exact ⟨A2, c2, rfl, Z5.out, D5.out⟩
  · have HA := Lib.hid (show fineB s ms hs l = false by simpa using ha)
    have E1 : chS s ms hs l = [] := by unfold chS; rw [if_neg ha]
    unfold chN chB
    rw [E1, show decide (0 < ([] : SL).length) = false by decide, show costN ms [] = 0 by rfl]
    clear ha E1
    go_enter Try.func35, Try.ntmps35
    go_wp2_with fail
    refine X1.out.mono ?_
    rintro e u ⟨he, d⟩
    rw [HA.out] at he
    subst he
    have D2 := Lib.hid (step B0.out d)
    clear d
    go_wp2
    go_ret3
    exact ⟨none, 0, rfl, ZS.nil _ _, D2.out⟩
end Go.Proofs.Ytighalbnpgmdfaa
