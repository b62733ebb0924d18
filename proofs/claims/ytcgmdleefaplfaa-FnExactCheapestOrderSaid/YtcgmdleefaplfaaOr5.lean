/- What the model's IsOrder answers. Conditions: none beyond each theorem's own. -/
import Derived.Test.YtcgmdleefaplfaaOr4
namespace Go.Proofs.Ytcgmdleefaplfaa
open Go.ChangeShapes Go.WideShapes Go.ChangeAt Go.RowKit Go.Sort
set_option linter.unusedVariables false
set_option linter.unusedSimpArgs false

set_option maxRecDepth 100000 in
set_option maxHeartbeats 1000000 in
theorem l6Bind_any (B : Option Addr) (cb : Nat) (bd T : List Int) (r : Int) (xs : List Int) (A : Option Addr) (c : Nat) (hbd : bd = wl 10 17 T) (hl : xs.length ≤ 1048576) (w : World) (h : RI w B bd) (h1 : RI w A xs) :
    Calls Try.prog 105 #[.slice B bd.length cb, .agg #[.int .i64 r, .slice A xs.length c]] w (PutO w w.heap.size (wl 10 17 (T ++ xs))) := by
  obtain ⟨i0, hi, hz0, hz1, hz2⟩ := info_parts int_info
  have hl' : (xs.length : Int) ≤ 1048576 := by omega
  have HBD := Lib.hid hbd
  have hbl : bd.length ≤ 1000 := len_hid hbd (by omega)
  have b1 := below_alloc w (.cells #[.int .i64 r, .slice A xs.length c] 135)
  have b2 := below_alloc (w.alloc (.cells #[.int .i64 r, .slice A xs.length c] 135)) (.cells #[] 3)
  have B0 := Lib.hid (step b1 b2)
  have HJ := Lib.hid h1
  have HI := Lib.hid (h.step (step b1 b2))
  have XA0 := Lib.hid ((Box.new w #[.int .i64 r, .slice A xs.length c] 135).step b2)
  clear h h1 b1 b2 hbd
  go_enter Try.func105, Try.ntmps105
  go_wp2_with (at_builtin; refine wpList_append_nums rfl _ _ 45 rfl (w.heap.size + 1) 3 i0 Try.underlying45 hi hz0 hz1 hz2 (.slice (some ⟨w.heap.size + 1, 0, none⟩) 0 0) 0 [] rfl (by have := World.ownsRow_lit (base := w.heap.size + 1) (e := 3) (size := 1) (w.alloc (.cells #[.int .i64 r, .slice A xs.length c] 135)) #[] 0 (by simp) (by unfold maxLen; omega) rfl; rw [al_size] at this; exact this) _ _ B cb bd rfl HI.out (by omega) (by simp) ?_; intro v' w' hown hg hat
               have hown' : w'.ownsRow (w.heap.size + 1) 3 1 v' (0 + bd.length) (bd.map (Value.int .i64)) := by simpa using hown
               have hown2 : w'.ownsRow (w.heap.size + 1) 3 1 v' bd.length (bd.map (Value.int .i64)) := by simpa using hown'
               obtain ⟨A2, c2, rfl⟩ := ownsRow_form hown2
               have HV := Lib.hid (ints_own hown2 (Nat.le_refl _))
               have XA := Lib.hid (show Box w' w.heap.size #[.int .i64 r, .slice A xs.length c] 135 from (hg.block w.heap.size (by simp <;> omega) (by simp [Value.ownBlock])).trans XA0.out)
               have HB := Lib.hid (show Below w.heap.size w w' from B0.out.grown hg (by (try simp) <;> omega) (fun k hk => by have := own_some hk; omega))
               have hz : w.heap.size + 1 ≤ w'.heap.size := by have := hg.size; simp at this; omega
               clear hown hown' hown2 hg hat)
  go_loopw [5, 6] (fun o i wr => ∃ (j : Nat) (A2 : Option Addr) (c2 : Nat) (out : List Int), j ≤ xs.length ∧ i = .int .i64 j ∧ o = .slice A2 out.length c2 ∧ Hid (out = wl 10 17 (T ++ xs.take j)) ∧ Hid (Ints wr (w.heap.size + 1) wr.heap.size A2 out) ∧ Hid (Box wr w.heap.size #[.int .i64 r, .slice A xs.length c] 135) ∧ Hid (Below w.heap.size w wr)) (fun _ i _ => xs.length - (intOf i).toNat)
  case atStart => exact ⟨0, A2, c2, bd, by omega, rfl, rfl, Lib.hid (by rw [HBD.out]; simp), HV, XA, HB⟩
  case round =>
    obtain ⟨j, A3, c3, out, hj, rfl, rfl, hO, hI, hX, hB⟩ := hrel
    have g1 := hX.out.cell 1
    simp only [List.getElem?_toArray, List.getElem?_cons_zero, List.getElem?_cons_succ] at g1
    have hj0 : (0 : Int) ≤ (j : Int) := by omega
    by_cases hjt : j < xs.length
    · have hj1 : (j : Int) < (xs.length : Int) := by omega
      obtain ⟨b2, off2, rfl, hb2, hc⟩ := RI.at_ (HJ.out.step hB.out) hjt
      generalize hx : xs.getD j 0 = x at hc
      have TX := Lib.hid (takeI xs hjt hx)
      have hol := len_hid hO.out (by omega)
      clear hx
      by_cases hin : inB x 10 17 = true
      · have HN := Lib.hid hin
        have O2 := Lib.hid (show putI out x = wl 10 17 (T ++ xs.take (j + 1)) by rw [TX.out, ← List.append_assoc, wl_yes _ hin, hO.out])
        have XP := Lib.hid (l3Put_any (w.heap.size + 1) A3 c3 out x (by omega) wr (by have := hX.out.lt; omega) hI.out)
        clear hin
        go_wp2_with fail
        refine (spec_IsVar x _).mono ?_
        rintro e w' ⟨rfl, rfl⟩
        rw [HN.out]
        go_wp2_with fail
        refine XP.out.mono ?_
        rintro e w1 ⟨A4, c4, rfl, hI4, d4⟩
        have hX4 := Lib.hid (hX.out.step d4)
        have hB4 := Lib.hid (step hB.out d4)
        have HI4 := Lib.hid hI4
        generalize putI out x = out4 at O2 HI4
        clear d4 hI4
        go_wp2
        go_roundw
        case rel => exact ⟨j + 1, A4, c4, out4, by omega, by go_num, rfl, O2, HI4, hX4, hB4⟩
        case measure => simp [intOf]; omega
      · have hin' : inB x 10 17 = false := by simpa using hin
        have HN := Lib.hid hin'
        have O2 := Lib.hid (show out = wl 10 17 (T ++ xs.take (j + 1)) by rw [TX.out, ← List.append_assoc, wl_no _ hin', hO.out])
        clear hin hin'
        go_wp2_with fail
        refine (spec_IsVar x _).mono ?_
        rintro e w' ⟨rfl, rfl⟩
        rw [HN.out]
        go_wp2
        go_roundw
        case rel => exact ⟨j + 1, A3, c3, out, by omega, by go_num, rfl, O2, hI, hX, hB⟩
        case measure => simp [intOf]; omega
    · obtain rfl : j = xs.length := by omega
      have O2 := Lib.hid (show out = wl 10 17 (T ++ xs) by rw [hO.out, take_all])
      go_wp2
      go_ret
      exact ⟨A3, c3, congrArg (fun o : List Int => Ending.returned (.slice A3 o.length c3)) O2.out, by rw [← O2.out]; exact hI.out.mono (by omega) (Nat.le_refl _), hB.out⟩

/-- append(v, y) of one number, in a new block: what is turned is v's own block. -/
theorem wpList_pushI {P : Program} {W : World} {ops : Array Oper} {rest : List Oper} {o : Oper} {a : Act} {Q : Exit → Act → World → Prop} (hgd : o.guard = none) (s x : Operand) (t e : TypeId)
    (ho : o.op = .call { callee := .builtin .append, args := #[s, x], argTypes := #[t, t] })
    (i : TypeInfo) (ht : P.underlying t = some (.slice e)) (hi : P.info? e = some i) (hz : i.zero = some (.int .i64 0)) (hz1 : i.size = 1) (hz2 : i.bytes = 8)
    {base n : Nat} {v : Value} {cs : List Value} {y : Value} (hs : a.eval s = v) (hx : a.eval x = .slice (some ⟨W.heap.size, 0, none⟩) 1 1) (hy : y.oneCell' = true)
    (hown : W.ownsRow base e 1 v n cs) (hbase : base ≤ W.heap.size) (hn : n + 1 ≤ 1048580)
    (h : ∀ v' w', w'.ownsRow base e 1 v' (n + 1) (cs ++ [y]) → W.grownBy w' v.ownBlock → wpList P ops Q rest (a.put o.dst v') w') :
    wpList P ops Q (o :: rest) a (W.alloc (.cells #[y] e)) := by
  refine wpList_append_own (P := P) _ hgd s x t ho base e i _ 1 8 ht hi hz hz1 hz2 rfl (by omega) v n _ hs (hown.alloc _) ⟨W.heap.size, 0, none⟩ 1 1 [y] hx rfl (cell_one_new _ _ _) (by intro u hu; simp at hu; subst hu; exact hy)
    (by unfold maxLen; omega) (by omega) (by simp; omega) ?_
  intro v' w' hown' hg _
  exact h v' w' hown' ((World.grownBy_alloc _ _ _).trans hg)
theorem Ints.grown {w w' : World} {lo : Nat} {A : Option Addr} {xs : List Int} {v : Value} (h : Ints w lo w.heap.size A xs) (hg : w.grownBy w' v.ownBlock) (hlt : ∀ g, v.ownBlock = some g → g < lo) : Ints w' lo w'.heap.size A xs :=
  (h.keep fun b h1 h2 => hg.block b h2 (by intro e; have := hlt b e.symm; omega)).mono (Nat.le_refl _) hg.size
theorem used_has (p : SL) (i : Int) : decide (i ∈ p.map Prod.fst) = usedB p i := rfl
theorem firsts_snoc (p : SL) (a m : Int) : (p ++ [(a, m)]).map Prod.fst = p.map Prod.fst ++ [a] := by simp

theorem step_no1 {ms : ML} {l : FL} {p : SL} {a m : Int} (h : inB a 0 ((l.length : Int) - 1) = false) : stepOk ms l p (a, m) = false := by simp [stepOk, h]
theorem step_no2 {ms : ML} {l : FL} {p : SL} {a m : Int} (h : usedB p a = true) : stepOk ms l p (a, m) = false := by simp [stepOk, h]
theorem step_no3 {ms : ML} {l : FL} {p : SL} {a m : Int} (h : inB m 0 ((ms.length : Int) - 1) = false) : stepOk ms l p (a, m) = false := by simp [stepOk, h]
theorem step_can {ms : ML} {l : FL} {p : SL} {a m : Nat} (h1 : inB (a : Int) 0 ((l.length : Int) - 1) = true) (h2 : usedB p (a : Int) = false) (h3 : inB (m : Int) 0 ((ms.length : Int) - 1) = true) {r li co qu ra : Int} {inp ts : List Int} (hf : ms.getD m noM = (r, inp, li, co, qu)) (hg : l.getD a noF = (ra, ts)) : stepOk ms l p ((a : Int), (m : Int)) = canB r inp ra ts (bnd l p) := by
  unfold stepOk
  simp only [h1, h2, h3, Int.toNat_natCast, hf, hg]
  rfl

end Go.Proofs.Ytcgmdleefaplfaa
