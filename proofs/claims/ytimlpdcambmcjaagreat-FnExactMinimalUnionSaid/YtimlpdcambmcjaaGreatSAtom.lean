/- Atoms in memory, read, copied, compared and marked. Conditions: none beyond each theorem's own. -/
import Derived.Test.YtimlpdcambmcjaaGreatS8

namespace Go.Proofs.YtimlpdcambmcjaaGreat.atom
open Go.ChangeShapes Go.WideShapes Go.ChangeAt Go.RowKit Go.Sort
set_option linter.unusedVariables false
set_option linter.unusedSimpArgs false

section
variable {H : Type} {enc : TypeId × Value → H} {w : World}
set_option maxRecDepth 100000 in
theorem open_atomT {r : Reach} {base : Nat} {v : Value} {d : DataW H} {p : List MemPlace} (hv : Value.okWide Tryz.prog w r base 92 v) (h : DataW.Trod enc Tryz.prog w 0 (fun _ => true) true 92 v d p) :
    ∃ (f : Int × List Int) (A : Option Addr) (c : Nat), v = .agg #[.int .i64 f.1, .slice A f.2.length c] ∧ f.2.length ≤ c ∧ c ≤ maxLen ∧ Ints w 0 w.heap.size A f.2 := by
  obtain ⟨v0, v1, y0, y1, n, rfl, _, _, h0, h1⟩ := Go.Joins.open_agg2 Tryz.underlying92 (by kernel_rfl) (by kernel_rfl) hv h
  obtain ⟨z, hz, _, _⟩ := DataW.trod_int Tryz.underlying3 h0
  injection hz with hz
  obtain ⟨A, c, xs, hv1, hl, hm, hi⟩ := open_nums (v := v1) Tryz.underlying22 Tryz.underlying3 (by kernel_rfl) h1
  subst hz hv1
  exact ⟨(z, xs), A, c, rfl, hl, hm, hi⟩
set_option maxRecDepth 100000 in
theorem open_atoms_at {fuel : Nat} {v : Value} {x : DataW H × List MemPlace} (hf : DataW.trod enc Tryz.prog w 0 (fun _ => true) true fuel 23 [v] = some x) :
    ∃ (A : Option Addr) (c : Nat) (fs : List (Int × List Int)), v = .slice A fs.length c ∧ fs.length ≤ c ∧ c ≤ maxLen ∧ Facts w 0 w.heap.size A fs := by
  have hC : Tryz.prog.cellsOf 92 = 2 := by kernel_rfl
  rcases Go.Deep.open_slice Tryz.underlying23 hf with ⟨hv, _⟩ | ⟨a, len, cap, m, n, D, Pl, hv, _, hl, hm, hmm, _, hi⟩
  · injection hv with hv
    exact ⟨none, 0, [], hv, Nat.le_refl _, by unfold maxLen; omega, fun h => absurd rfl h⟩
  · injection hv with hv
    rw [hC] at hi
    simp only [if_true] at hmm
    have each : ∀ i, i < len → ∃ x : Int × List Int, ∃ B c', w.cell? (a.add (i * 2)) = some (.int .i64 x.1) ∧ w.cell? (a.add (i * 2 + 1)) = some (.slice B x.2.length c') ∧ x.2.length ≤ c' ∧ c' ≤ maxLen ∧ Ints w 0 w.heap.size B x.2 := by
      intro i hil
      obtain ⟨cs, hc, ht⟩ := hi i (by omega)
      obtain ⟨_, hcl, hat⟩ := World.cells?_some hc
      obtain ⟨y0, y1, n', _, _, h0, h1⟩ := trod_struct2 Tryz.underlying92 ht
      have k0 : Tryz.prog.cellsOf 3 = 1 := by kernel_rfl
      have k1 : Tryz.prog.cellsOf 22 = 1 := by kernel_rfl
      have e0 := hat 0 (by omega)
      have e1 := hat 1 (by omega)
      match cs, hcl with
      | [u0, u1], _ =>
        simp only [k0, k1] at h0 h1
        simp at h0 h1 e0 e1
        obtain ⟨z, hz, _, _⟩ := DataW.trod_int Tryz.underlying3 h0
        injection hz with hz
        obtain ⟨B, c', xs, hv1, hl, hm, hii⟩ := open_nums (v := u1) Tryz.underlying22 Tryz.underlying3 k0 h1
        subst hz hv1
        refine ⟨(z, xs), B, c', ?_, ?_, hl, hm, hii⟩
        · exact e0
        · rw [Go.Deep.add_add] at e1; exact e1
    obtain ⟨f, hfx⟩ := Go.Deep.choose_lt each
    have hlen : ((List.range len).map f).length = len := by simp
    refine ⟨some a, cap, (List.range len).map f, by rw [hlen]; exact hv, by rw [hlen]; exact hl, hm, fun hne => ?_⟩
    have hpos : 0 < len := by
      rcases Nat.eq_zero_or_pos len with h0 | h0
      · subst h0; simp at hne
      · exact h0
    obtain ⟨b, off, spot⟩ := a
    obtain ⟨_, _, hc0, _⟩ := hfx 0 hpos
    have hspot : spot = none := by simpa [Addr.add] using World.cell?_spot hc0
    subst hspot
    have hb := World.block_lt_of_cell? w _ hc0
    refine ⟨b, off, rfl, by omega, by simpa [Addr.add] using hb, fun k hk => ?_⟩
    have hk' : k < len := by rw [hlen] at hk; exact hk
    have e : ∀ j, (⟨b, off, none⟩ : Addr).add j = ⟨b, off + j, none⟩ := fun j => by unfold Addr.add; split <;> simp_all
    obtain ⟨B, c', g1, g2, g3, g4, g5⟩ := hfx k hk'
    rw [e] at g1 g2
    have hx : ((List.range len).map f).getD k (0, []) = f k := by simp [List.getD_eq_getElem?_getD, hk']
    rw [hx]
    exact ⟨B, c', g1, g2, g3, g4, g5⟩
set_option maxRecDepth 100000 in
theorem open_atomsT {r : Reach} {base : Nat} {v : Value} {d : DataW H} {p : List MemPlace} (hv : Value.okWide Tryz.prog w r base 23 v) (h : DataW.Trod enc Tryz.prog w 0 (fun _ => true) true 23 v d p) :
    ∃ (A : Option Addr) (c : Nat) (fs : List (Int × List Int)), v = .slice A fs.length c ∧ fs.length ≤ c ∧ c ≤ maxLen ∧ Facts w 0 w.heap.size A fs := by
  obtain ⟨fuel, hf⟩ := h
  obtain ⟨A, l, c, rfl⟩ := okWide_slice Tryz.underlying23 hv
  exact open_atoms_at hf
end
set_option maxRecDepth 100000 in
theorem szAtom_any (f : Int × List Int) (A : Option Addr) (c : Nat) (left : Int) (hl : f.2.length ≤ 9223372036854775807) (h0 : 0 ≤ left) (h1 : left ≤ 1048576) (w : World) :
    Calls Tryz.prog 72 #[.agg #[.int .i64 f.1, .slice A f.2.length c], .int .i64 left] w fun e w' => e = .returned (.int .i64 (if left - f.2.length < 0 then -1 else left - f.2.length)) ∧ Below w.heap.size w w' := by
  obtain ⟨r, xs⟩ := f
  simp only at hl ⊢
  by_cases h : left - (xs.length : Int) < 0
  · go_enter Tryz.func72, Tryz.ntmps72
    go_wp2_with fail
    refine (szIntS_any A c xs.length left hl h0 h1 _).mono ?_
    rintro e w1 ⟨rfl, rfl⟩
    rw [if_pos h]
    go_wp2
    go_ret
    exact ⟨rfl, (Below.refl _ _).alloc (Nat.le_refl _) _⟩
  · go_enter Tryz.func72, Tryz.ntmps72
    go_wp2_with fail
    refine (szIntS_any A c xs.length left hl h0 h1 _).mono ?_
    rintro e w1 ⟨rfl, rfl⟩
    have h' : (xs.length : Int) ≤ left := by omega
    rw [if_neg (by omega)]
    go_wp2
    go_ret
    exact ⟨rfl, (Below.refl _ _).alloc (Nat.le_refl _) _⟩

set_option maxHeartbeats 400000 in
set_option maxRecDepth 100000 in
theorem toAtom_any (lo hi : Nat) (r : Int) (xs : List Int) (A : Option Addr) (c : Nat) (hl : xs.length ≤ 1048576) (w : World) (hhi : hi ≤ w.heap.size) (h : Ints w lo hi A xs) :
    Calls Tryz.prog 82 #[.agg #[.int .i64 r, .slice A xs.length c]] w fun e w' => e = .returned (.agg #[.int .i64 r, .slice (some ⟨w.heap.size + 3, 0, none⟩) xs.length xs.length]) ∧
      Row w' (w.heap.size + 3) xs ∧ Below w.heap.size w w' ∧ w'.heap.size = w.heap.size + 4 := by
  have HI := Lib.hid h
  clear h
  go_enter Tryz.func82, Tryz.ntmps82
  go_wp2_with fail
  refine (toIntS_any lo hi A c xs hl _ (by simp [World.setCell]; omega) (HI.out.below (((((Below.refl _ _).alloc (Nat.le_refl _) _).alloc (by simp) _).alloc (by simp; omega) _)) hhi)).mono ?_
  rintro e w1 ⟨rfl, hr, hb, hz⟩
  obtain ⟨hc, hf⟩ := bcell hb
  have hs : (w.heap.size + 1 + 1 + 1 + 1 = w1.heap.size) := by rw [hz]; simp
  have HR := Lib.hid hr
  have HB := Lib.hid hb
  have HS := Lib.hid hs
  have HZ : w.heap.size + 2 < w1.heap.size := by omega
  clear hr hb hz hs
  go_wp2
  refine bodyPost_ret (v := .agg #[.int .i64 r, .slice (some ⟨w.heap.size + 3, 0, none⟩) xs.length xs.length]) (by simp [results, Tryz.results82, go_sem, hc, HZ]) rfl ⟨rfl, ?_, ?_, ?_⟩
  · have := HR.out
    simp at this
    exact ((this.set_other (by simp <;> omega)).set_other (by simp <;> omega)).set_other (by simp <;> omega)
  · have B := HB.out
    refine Below.setCell (Below.setCell (Below.setCell ((((((Below.refl _ _).alloc (Nat.le_refl _) _).alloc (by simp) _).alloc (by simp; omega) _)).trans (B.mono ?_)) ?_ _) ?_ _) ?_ _
    all_goals (simp; try omega)
  · rw [set_size, set_size, set_size, ← HS.out]

set_option maxHeartbeats 400000 in
set_option maxRecDepth 100000 in
theorem eqAtom_any (lo hi lo' hi' : Nat) (r r' : Int) (xs ys : List Int) (A A' : Option Addr) (c c' : Nat) (hl : xs.length ≤ 140737488355328) (hl2 : ys.length ≤ 140737488355328) (w : World) (hhi : hi ≤ w.heap.size) (hhi' : hi' ≤ w.heap.size)
    (h : Ints w lo hi A xs) (h' : Ints w lo' hi' A' ys) :
    Calls Tryz.prog 95 #[.agg #[.int .i64 r, .slice A xs.length c], .agg #[.int .i64 r', .slice A' ys.length c']] w fun e w' => e = .returned (.bool (decide (r = r') && decide (xs = ys))) ∧ Below w.heap.size w w' := by
  have HI := Lib.hid h
  have HJ := Lib.hid h'
  clear h h'
  by_cases hr : r = r'
  · subst hr
    by_cases he : xs = ys
    · have D := Lib.hid (show decide (xs = ys) = true by simpa using he)
      have H : (decide (r = r) && decide (xs = ys)) = true := by simp [he]
      rw [H]
      clear H he
      go_enter Tryz.func95, Tryz.ntmps95
      go_wp2_with fail
      refine (eqIntS_any lo hi lo' hi' A A' c c' xs ys hl hl2 _ (HI.out.below (((Below.refl _ _).alloc (Nat.le_refl _) _).alloc (by simp) _) hhi) (HJ.out.below (((Below.refl _ _).alloc (Nat.le_refl _) _).alloc (by simp) _) hhi')).mono ?_
      rintro e w1 ⟨he, hb⟩
      rw [D.out] at he
      subst he
      have B : Below w.heap.size w w1 := (((Below.refl _ _).alloc (Nat.le_refl _) _).alloc (by simp) _).trans (hb.mono (by simp; omega))
      clear hb
      go_wp2
      go_ret
      exact ⟨rfl, B⟩
    · have D := Lib.hid (show decide (xs = ys) = false by simpa using he)
      have H : (decide (r = r) && decide (xs = ys)) = false := by simp [he]
      rw [H]
      clear H he
      go_enter Tryz.func95, Tryz.ntmps95
      go_wp2_with fail
      refine (eqIntS_any lo hi lo' hi' A A' c c' xs ys hl hl2 _ (HI.out.below (((Below.refl _ _).alloc (Nat.le_refl _) _).alloc (by simp) _) hhi) (HJ.out.below (((Below.refl _ _).alloc (Nat.le_refl _) _).alloc (by simp) _) hhi')).mono ?_
      rintro e w1 ⟨he, hb⟩
      rw [D.out] at he
      subst he
      have B : Below w.heap.size w w1 := (((Below.refl _ _).alloc (Nat.le_refl _) _).alloc (by simp) _).trans (hb.mono (by simp; omega))
      clear hb
      go_wp2
      go_ret
      exact ⟨rfl, B⟩
  · have H : (decide (r = r') && decide (xs = ys)) = false := by simp [hr]
    rw [H]
    have d1 : (r == r') = false := by simpa using hr
    have d2 : (r != r') = true := by simpa using hr
    clear H hr
    go_enter Tryz.func95, Tryz.ntmps95
    go_wp2
    go_ret
    exact ⟨rfl, ((Below.refl _ _).alloc (Nat.le_refl _) _).alloc (by simp) _⟩

/-- Is (r, xs) a fact of the schema s? -/
def factB (s : List Int) (r : Int) (xs : List Int) : Bool := schB s && inB r 0 ((s.length : Int) - 1) && decide ((xs.length : Int) = s.getD r.toNat 0) && allB 0 17 xs

set_option maxHeartbeats 1000000 in
set_option maxRecDepth 100000 in
theorem spec_IsAtom (lo hi lo' hi' : Nat) (S : Option Addr) (cs : Nat) (s : List Int) (r : Int) (xs : List Int) (A : Option Addr) (c : Nat) (hls : s.length ≤ 140737488355328) (hl : xs.length ≤ 140737488355328) (w : World) (hhi : hi ≤ w.heap.size) (hhi' : hi' ≤ w.heap.size)
    (h : Ints w lo hi S s) (h' : Ints w lo' hi' A xs) :
    Calls Tryz.prog 74 #[.slice S s.length cs, .agg #[.int .i64 r, .slice A xs.length c]] w fun e w' => e = .returned (.bool (factB s r xs)) ∧ Below w.heap.size w w' := by
  have hs' : (s.length : Int) ≤ 140737488355328 := by omega
  have hx' : (xs.length : Int) ≤ 140737488355328 := by omega
  have HI := Lib.hid fun o => h.below (((Below.refl _ _).alloc (Nat.le_refl w.heap.size) o)) hhi
  have HJ := Lib.hid h'
  clear h h'
  have b0 : ∀ o, Below w.heap.size w (w.alloc o) := fun o => (Below.refl _ _).alloc (Nat.le_refl w.heap.size) o
  have B0 := Lib.hid b0
  clear b0
  by_cases c1 : schB s = true
  · have C1 := Lib.hid c1
    clear c1
    by_cases c2 : inB r 0 ((s.length : Int) - 1) = true
    · have C2 := Lib.hid c2
      have hr : 0 ≤ r ∧ r ≤ (s.length : Int) - 1 := by simpa [inB] using c2
      clear c2
      obtain ⟨k, rfl⟩ := Int.eq_ofNat_of_zero_le hr.1
      have hk : k < s.length := by omega
      have hk0 : (0 : Int) ≤ (k : Int) := by omega
      have hk1 : (k : Int) < (s.length : Int) := by omega
      obtain ⟨b, off, rfl, _, hbhi, hcell⟩ := (HI.out (.cells #[.int .i64 k, .slice A xs.length c] 67)).at_ hk
      generalize hy : s.getD k 0 = y at hcell
      have HY := Lib.hid hy
      clear hy
      have X1 := Lib.hid fun W (h : Ints W lo hi (some ⟨b, off, none⟩) s) => C1.out ▸ left_same (spec_IsSchema lo hi (some ⟨b, off, none⟩) cs s hls W h)
      have X2 := Lib.hid fun W => C2.out ▸ left_same (l1In_any (k : Int) 0 ((s.length : Int) - 1) W)
      by_cases c3 : (xs.length : Int) = y
      · have d3 : ((xs.length : Int) == y) = true := by simpa using c3
        have d3' : ((xs.length : Int) != y) = false := by simpa using c3
        have C3 := Lib.hid c3
        clear c3
        go_enter Tryz.func74, Tryz.ntmps74
        go_wp2
        go_quiet ((first | (go_at_call 77; exact Calls.quiet_of_same (X1.out _ (HI.out _))) | (go_at_call 78; exact Calls.quiet_of_same (X2.out _))))
        go_wp2
        have HB := Lib.hid (below_drewN (B0.out (.cells #[.int .i64 (k : Int), .slice A xs.length c] 67)) nq)
        go_loop [5] (fun i => ∃ j : Nat, j ≤ xs.length ∧ i = .int .i64 j ∧ allB 0 17 (xs.take j) = true) (fun i => xs.length - (intOf i).toNat)
        case atStart => exact ⟨0, by omega, rfl, rfl⟩
        case round =>
          obtain ⟨j, hj, rfl, ha⟩ := hrel
          have HA := Lib.hid ha
          clear ha
          by_cases hlt : j < xs.length
          · obtain ⟨b2, off2, rfl, _, _, hc⟩ := (HJ.out.below HB.out hhi').at_ hlt
            generalize hx : xs.getD j 0 = x at hc
            have HX := Lib.hid hx
            clear hx
            by_cases hin : inB x 0 17 = true
            · have HN := Lib.hid hin
              clear hin
              go_wp2_with fail
              refine (spec_IsTerm x _).mono ?_
              rintro e w' ⟨rfl, rfl⟩
              rw [HN.out]
              go_wp2
              go_round
              case rel => exact ⟨j + 1, by omega, by go_num, by rw [allB_take _ _ _ _ hlt, HA.out, HX.out, HN.out]; rfl⟩
              case measure => simp [intOf]; omega
            · have HN := Lib.hid (show inB x 0 17 = false by simpa using hin)
              clear hin
              go_wp2_with fail
              refine (spec_IsTerm x _).mono ?_
              rintro e w' ⟨rfl, rfl⟩
              rw [HN.out]
              go_wp2
              go_ret
              exact ⟨ret_bool (by unfold factB; rw [allB_not _ _ _ j hlt (by rw [HX.out]; exact HN.out)]; simp), HB.out⟩
          · obtain rfl : j = xs.length := by omega
            go_wp2
            go_ret
            exact ⟨ret_bool (by
              unfold factB
              have := HA.out
              rw [take_all] at this
              rw [C1.out, C2.out, this, Int.toNat_natCast, HY.out, decide_eq_true C3.out]; rfl), HB.out⟩
      · have d3 : ((xs.length : Int) == y) = false := by simpa using c3
        have d3' : ((xs.length : Int) != y) = true := by simpa using c3
        have H : factB s (k : Int) xs = false := by
          unfold factB
          rw [Int.toNat_natCast, HY.out, decide_eq_false c3]
          simp
        rw [H]
        clear c3 H
        go_enter Tryz.func74, Tryz.ntmps74
        go_wp2
        go_quiet ((first | (go_at_call 77; exact Calls.quiet_of_same (X1.out _ (HI.out _))) | (go_at_call 78; exact Calls.quiet_of_same (X2.out _))))
        go_wp2
        go_ret
        exact ⟨rfl, below_drewN (B0.out _) _⟩
    · have c2' : inB r 0 ((s.length : Int) - 1) = false := by simpa using c2
      have H : factB s r xs = false := by simp [factB, c2']
      rw [H]
      have C2 := Lib.hid c2'
      clear c2 c2' H
      have X1 := Lib.hid fun W (h : Ints W lo hi S s) => C1.out ▸ left_same (spec_IsSchema lo hi S cs s hls W h)
      have X2 := Lib.hid fun W => C2.out ▸ left_same (l1In_any r 0 ((s.length : Int) - 1) W)
      go_enter Tryz.func74, Tryz.ntmps74
      go_wp2
      go_quiet ((first | (go_at_call 77; exact Calls.quiet_of_same (X1.out _ (HI.out _))) | (go_at_call 78; exact Calls.quiet_of_same (X2.out _))))
      go_wp2
      go_ret
      exact ⟨rfl, below_drewN (B0.out _) _⟩
  · have c1' : schB s = false := by simpa using c1
    have H : factB s r xs = false := by simp [factB, c1']
    rw [H]
    have C1 := Lib.hid c1'
    clear c1 c1' H
    have X1 := Lib.hid fun W (h : Ints W lo hi S s) => C1.out ▸ left_same (spec_IsSchema lo hi S cs s hls W h)
    go_enter Tryz.func74, Tryz.ntmps74
    go_wp2
    go_quiet ((first | (go_at_call 77; exact Calls.quiet_of_same (X1.out _ (HI.out _)))))
    go_wp2
    go_ret
    exact ⟨rfl, below_drewN (B0.out _) _⟩

set_option maxHeartbeats 1000000 in
set_option maxRecDepth 100000 in
theorem impl_IsAtom (lo hi lo' hi' : Nat) (S : Option Addr) (cs : Nat) (s : List Int) (r : Int) (xs : List Int) (A : Option Addr) (c : Nat) (hls : s.length ≤ 140737488355328) (hl : xs.length ≤ 140737488355328) (w : World) (hhi : hi ≤ w.heap.size) (hhi' : hi' ≤ w.heap.size)
    (h : Ints w lo hi S s) (h' : Ints w lo' hi' A xs) :
    Calls Tryz.prog 88 #[.slice S s.length cs, .agg #[.int .i64 r, .slice A xs.length c]] w fun e w' => e = .returned (.bool (factB s r xs)) ∧ Below w.heap.size w w' := by
  have hs' : (s.length : Int) ≤ 140737488355328 := by omega
  have hx' : (xs.length : Int) ≤ 140737488355328 := by omega
  have HI := Lib.hid fun o => h.below (((Below.refl _ _).alloc (Nat.le_refl w.heap.size) o)) hhi
  have HJ := Lib.hid fun o => h'.below (((Below.refl _ _).alloc (Nat.le_refl w.heap.size) o)) hhi'
  clear h h'
  have b0 : ∀ o, Below w.heap.size w (w.alloc o) := fun o => (Below.refl _ _).alloc (Nat.le_refl w.heap.size) o
  have B0 := Lib.hid b0
  clear b0
  by_cases c1 : schB s = true
  · have C1 := Lib.hid c1
    clear c1
    by_cases c2 : inB r 0 ((s.length : Int) - 1) = true
    · have C2 := Lib.hid c2
      have hr : 0 ≤ r ∧ r ≤ (s.length : Int) - 1 := by simpa [inB] using c2
      clear c2
      obtain ⟨k, rfl⟩ := Int.eq_ofNat_of_zero_le hr.1
      have hk : k < s.length := by omega
      have hk0 : (0 : Int) ≤ (k : Int) := by omega
      have hk1 : (k : Int) < (s.length : Int) := by omega
      obtain ⟨b, off, rfl, _, hbhi, hcell⟩ := (HI.out (.cells #[.int .i64 k, .slice A xs.length c] 67)).at_ hk
      generalize hy : s.getD k 0 = y at hcell
      have HY := Lib.hid hy
      clear hy
      have X1 := Lib.hid fun W (h : Ints W lo hi (some ⟨b, off, none⟩) s) => C1.out ▸ left_same (impl_IsSchema lo hi (some ⟨b, off, none⟩) cs s hls W h)
      have X2 := Lib.hid fun W => C2.out ▸ left_same (isBetween_any (k : Int) 0 ((s.length : Int) - 1) W)
      by_cases c3 : (xs.length : Int) = y
      · have d3 : ((xs.length : Int) == y) = true := by simpa using c3
        have C3 := Lib.hid c3
        clear c3
        have X3 := Lib.hid fun W (h : Ints W lo' hi' A xs) => left_same (areAll_term lo' hi' A c xs hl W h)
        have H : factB s (k : Int) xs = allB 0 17 xs := by
          unfold factB
          rw [C1.out, C2.out, Int.toNat_natCast, HY.out, decide_eq_true C3.out]
          simp
        rw [H]
        clear H
        go_enter Tryz.func88, Tryz.ntmps88
        go_wp2
        go_quiet ((first | (go_at_call 102; exact Calls.quiet_of_same (X1.out _ (HI.out _))) | (go_at_call 86; exact Calls.quiet_of_same (X2.out _)) | (go_at_call 125; exact Calls.quiet_of_same (X3.out _ (HJ.out _)))))
        go_wp2
        go_ret
        exact ⟨rfl, below_drewN (B0.out _) _⟩
      · have d3 : ((xs.length : Int) == y) = false := by simpa using c3
        have H : factB s (k : Int) xs = false := by
          unfold factB
          rw [Int.toNat_natCast, HY.out, decide_eq_false c3]
          simp
        rw [H]
        clear c3 H
        go_enter Tryz.func88, Tryz.ntmps88
        go_wp2
        go_quiet ((first | (go_at_call 102; exact Calls.quiet_of_same (X1.out _ (HI.out _))) | (go_at_call 86; exact Calls.quiet_of_same (X2.out _))))
        go_wp2
        go_ret
        exact ⟨rfl, below_drewN (B0.out _) _⟩
    · have c2' : inB r 0 ((s.length : Int) - 1) = false := by simpa using c2
      have H : factB s r xs = false := by simp [factB, c2']
      rw [H]
      have C2 := Lib.hid c2'
      clear c2 c2' H
      have X1 := Lib.hid fun W (h : Ints W lo hi S s) => C1.out ▸ left_same (impl_IsSchema lo hi S cs s hls W h)
      have X2 := Lib.hid fun W => C2.out ▸ left_same (isBetween_any r 0 ((s.length : Int) - 1) W)
      go_enter Tryz.func88, Tryz.ntmps88
      go_wp2
      go_quiet ((first | (go_at_call 102; exact Calls.quiet_of_same (X1.out _ (HI.out _))) | (go_at_call 86; exact Calls.quiet_of_same (X2.out _))))
      go_wp2
      go_ret
      exact ⟨rfl, below_drewN (B0.out _) _⟩
  · have c1' : schB s = false := by simpa using c1
    have H : factB s r xs = false := by simp [factB, c1']
    rw [H]
    have C1 := Lib.hid c1'
    clear c1 c1' H
    have X1 := Lib.hid fun W (h : Ints W lo hi S s) => C1.out ▸ left_same (impl_IsSchema lo hi S cs s hls W h)
    go_enter Tryz.func88, Tryz.ntmps88
    go_wp2
    go_quiet ((first | (go_at_call 102; exact Calls.quiet_of_same (X1.out _ (HI.out _)))))
    go_wp2
    go_ret
    exact ⟨rfl, below_drewN (B0.out _) _⟩
theorem toAtom_r (r : Int) (xs : List Int) (A : Option Addr) (c : Nat) (hl : xs.length ≤ 1048576) (w : World) (h : RI w A xs) :
    Calls Tryz.prog 82 #[.agg #[.int .i64 r, .slice A xs.length c]] w fun e w' => e = .returned (.agg #[.int .i64 r, .slice (some ⟨w.heap.size + 3, 0, none⟩) xs.length xs.length]) ∧
      Row w' (w.heap.size + 3) xs ∧ Below w.heap.size w w' ∧ w'.heap.size = w.heap.size + 4 :=
  toAtom_any 0 w.heap.size r xs A c hl w (Nat.le_refl _) h
theorem eqAtom_r (r : Int) (xs : List Int) (A A' : Option Addr) (c c' : Nat) (hl : xs.length ≤ 1048576) (w : World) (h : RI w A xs) (h' : RI w A' xs) :
    Calls Tryz.prog 95 #[.agg #[.int .i64 r, .slice A xs.length c], .agg #[.int .i64 r, .slice A' xs.length c']] w fun e w' => e = .returned (.bool true) ∧ Below w.heap.size w w' := by
  have := eqAtom_any _ _ _ _ r r xs xs A A' c c' (by omega) (by omega) w (Nat.le_refl _) (Nat.le_refl _) h h'
  rwa [decide_eq_true rfl, decide_eq_true rfl] at this
theorem spec_IsAtom_r (S : Option Addr) (cs : Nat) (s : List Int) (r : Int) (xs : List Int) (A : Option Addr) (c : Nat) (hls : s.length ≤ 140737488355328) (hl : xs.length ≤ 140737488355328) (w : World) (h : RI w S s) (h' : RI w A xs) :
    Calls Tryz.prog 74 #[.slice S s.length cs, .agg #[.int .i64 r, .slice A xs.length c]] w fun e w' => e = .returned (.bool (factB s r xs)) ∧ Below w.heap.size w w' :=
  spec_IsAtom _ _ _ _ S cs s r xs A c hls hl w (Nat.le_refl _) (Nat.le_refl _) h h'
theorem impl_IsAtom_r (S : Option Addr) (cs : Nat) (s : List Int) (r : Int) (xs : List Int) (A : Option Addr) (c : Nat) (hls : s.length ≤ 140737488355328) (hl : xs.length ≤ 140737488355328) (w : World) (h : RI w S s) (h' : RI w A xs) :
    Calls Tryz.prog 88 #[.slice S s.length cs, .agg #[.int .i64 r, .slice A xs.length c]] w fun e w' => e = .returned (.bool (factB s r xs)) ∧ Below w.heap.size w w' :=
  impl_IsAtom _ _ _ _ S cs s r xs A c hls hl w (Nat.le_refl _) (Nat.le_refl _) h h'
set_option maxHeartbeats 400000 in
set_option maxRecDepth 100000 in
theorem szAtomS_w (A : Option Addr) (c : Nat) (l : FL) (left : Int) (hc : l.length ≤ 9223372036854775807) (h0 : 0 ≤ left) (h1 : left ≤ 1048576) (w : World) (h : RF w A l) :
    Calls Tryz.prog 36 #[.slice A l.length c, .int .i64 left] w fun e w' => e = .returned (.int .i64 (szR left (szF l))) ∧ Below w.heap.size w w' := by
  have hc' : (l.length : Int) ≤ 9223372036854775807 := by omega
  have HI := Lib.hid h
  clear h
  by_cases hb : left - (l.length : Int) < 0
  · have HE : left - szF l < 0 := by unfold szF; omega
    rw [szR_neg HE]
    clear HE
    go_enter Tryz.func36, Tryz.ntmps36
    go_wp2
    go_ret
    exact ⟨rfl, Below.refl _ _⟩
  · have hb' : (l.length : Int) ≤ left := by omega
    go_enter Tryz.func36, Tryz.ntmps36
    go_wp2
    go_loopw [1, 5] (fun z i wr => ∃ k : Nat, k ≤ l.length ∧ i = .int .i64 k ∧ z = .int .i64 (left - l.length - (sumN (l.take k) : Int)) ∧ (sumN (l.take k) : Int) ≤ left - l.length ∧ Below w.heap.size w wr) (fun _ i _ => l.length - (intOf i).toNat)
    case atStart => exact ⟨0, by omega, rfl, by simp [sumN], by simp [sumN]; omega, Below.refl _ _⟩
    case round =>
      obtain ⟨k, hk, rfl, rfl, hs, hB⟩ := hrel
      by_cases hlt : k < l.length
      · generalize hf : l.getD k (0, []) = f
        obtain ⟨r, xs⟩ := f
        have S := Lib.hid (show sumN (l.take (k + 1)) = sumN (l.take k) + xs.length by rw [sumN_take _ _ hlt, hf])
        have SL := Lib.hid (sumN_le l (k + 1))
        obtain ⟨b, off, B, c2, rfl, _, e0, e1, hxc, hcm, hI⟩ := (HI.out.step hB).at_ hlt hf
        unfold maxLen at hcm
        have HX := Lib.hid hI
        clear hI hf
        have hk0 : (0 : Int) ≤ (k : Int) := by omega
        go_wp2_with fail
        refine (szAtom_any (r, xs) B c2 (left - l.length - (sumN (l.take k) : Int)) (by simp; omega) (by omega) (by omega) _).mono ?_
        rintro e u ⟨he, d⟩
        simp only at he
        have hB2 := hB.trans (d.mono hB.size)
        clear d
        by_cases hn : left - (l.length : Int) - (sumN (l.take k) : Int) - (xs.length : Int) < 0
        · rw [if_pos hn] at he
          subst he
          go_wp2
          go_ret
          exact ⟨ret_int (szR_neg (by have := S.out; have := SL.out; unfold szF; omega)).symm, hB2⟩
        · rw [if_neg hn] at he
          subst he
          have hn' : 0 ≤ left - (l.length : Int) - (sumN (l.take k) : Int) - (xs.length : Int) := by omega
          go_wp2
          go_roundw
          case rel => exact ⟨k + 1, by omega, by go_num, by rw [S.out]; congr 1; omega, by rw [S.out]; omega, hB2⟩
          case measure => simp [intOf]; omega
      · obtain rfl : k = l.length := by omega
        go_wp2
        go_ret
        exact ⟨ret_int (by rw [take_all] at hs ⊢; rw [szR_pos (by unfold szF; omega)]; unfold szF; omega), hB⟩
theorem szAtomS_any (A : Option Addr) (c : Nat) (l : FL) (left : Int) (hc : l.length ≤ 9223372036854775807) (h0 : 0 ≤ left) (h1 : left ≤ 1048576) (w : World) (h : RF w A l) :
    Calls Tryz.prog 36 #[.slice A l.length c, .int .i64 left] w fun e w' => e = .returned (.int .i64 (if left - szF l < 0 then -1 else left - szF l)) ∧ Below w.heap.size w w' :=
  szAtomS_w A c l left hc h0 h1 w h
set_option maxRecDepth 100000 in
theorem fact_info : (Tryz.prog.info? 67).map (fun i => (i.zero, i.size, i.bytes)) = some (some (.agg #[.int .i64 0, .slice none 0 0]), 2, 32) := by kernel_rfl

/-- Block g begins with the first k of the facts fs, their numbers each in a block of its own, all from lo to below hi. -/
def OwnP (w : World) (lo hi g m k : Nat) (fs : FL) : Prop :=
  lo ≤ g ∧ g < hi ∧ ∃ (F : Nat → Value) (bs : Nat → Nat), w.rowIs g 67 m F ∧ (∀ j, j < k → F (j * 2) = .int .i64 (fs.getD j (0, [])).1 ∧ OwnV w lo hi (F (j * 2 + 1)) (bs j) (fs.getD j (0, [])).2) ∧
    (∀ i j, i < j → j < k → 0 < (fs.getD i (0, [])).2.length → 0 < (fs.getD j (0, [])).2.length → bs i ≠ bs j)

theorem OwnP.facts {w : World} {lo hi g m : Nat} {fs : FL} (h : OwnP w lo hi g m fs.length fs) (hm : fs.length * 2 ≤ m) : Facts w lo hi (some ⟨g, 0, none⟩) fs := fun _ => by
  obtain ⟨h1, h2, F, bs, hr, he, _⟩ := h
  refine ⟨g, 0, rfl, h1, h2, fun k hk => ?_⟩
  obtain ⟨e0, e1⟩ := he k hk
  obtain ⟨A, c, hv, _⟩ := id e1
  rw [hv] at e1
  obtain ⟨_, hc, hcm, hi⟩ := e1.ints
  refine ⟨A, c, ?_, ?_, hc, hcm, hi⟩
  · rw [Nat.zero_add, World.rowIs.cell hr (show k * 2 < m by omega), e0]
  · rw [Nat.zero_add, World.rowIs.cell hr (show k * 2 + 1 < m by omega), hv]

/-- One fact more is stored. -/
theorem own_step {wr u : World} {lo g m k : Nat} {fs : FL} (h : OwnP wr lo wr.heap.size g m k fs) (hkm : k * 2 + 1 < m) {r : Int} {xs : List Int} (hf : fs.getD k (0, []) = (r, xs)) (hb : Below wr.heap.size wr u)
    {v : Value} {q : Nat} (hv : OwnV u lo u.heap.size v q xs) (hq : 0 < xs.length → wr.heap.size ≤ q) :
    OwnP ((u.setCell ⟨g, k * 2, none⟩ (.int .i64 r)).setCell ⟨g, k * 2 + 1, none⟩ v) lo ((u.setCell ⟨g, k * 2, none⟩ (.int .i64 r)).setCell ⟨g, k * 2 + 1, none⟩ v).heap.size g m (k + 1) fs := by
  rw [size2]
  obtain ⟨h1, h2, F, bs, hr, he, hd⟩ := h
  have hs := hb.size
  have hr2 : u.rowIs g 67 m F := World.rowIs.of_block hr (hb.block g h2)
  have far : ∀ b, b ≠ g → ((u.setCell ⟨g, k * 2, none⟩ (.int .i64 r)).setCell ⟨g, k * 2 + 1, none⟩ v).heap[b]? = u.heap[b]? := fun b hbg =>
    (Below.heap_setCell _ ⟨g, k * 2 + 1, none⟩ _ b hbg).trans (Below.heap_setCell _ ⟨g, k * 2, none⟩ _ b hbg)
  have ne : ∀ b, (∃ c, u.heap[b]? = some (.cells c 3 (0, 0))) → b ≠ g := by
    rintro b ⟨c, hc⟩ rfl
    obtain ⟨c2, hc2, _⟩ := hr2
    rw [hc] at hc2
    injection hc2 with hc2
    injection hc2 with _ ht
    exact absurd ht (by decide)
  have hlt : ∀ j, j < k → 0 < (fs.getD j (0, [])).2.length → bs j < wr.heap.size := fun j hj hp => by
    obtain ⟨_, A, c, _, _, _, hx⟩ := he j hj
    exact (hx hp).2.2.1
  refine ⟨h1, by omega, _, fun j => if j = k then q else bs j, (hr2.set (k * 2) _).set (k * 2 + 1) _, fun j hj => ?_, fun i j hij hj hi0 hj0 => ?_⟩
  · by_cases e : j = k
    · subst e
      have t1 : ¬ (j * 2 = j * 2 + 1) := by omega
      simp only [if_pos, t1, if_false, hf]
      exact ⟨trivial, hv.keep fun _ _ hc => far _ (ne _ hc)⟩
    · have t1 : ¬ (j * 2 = k * 2 + 1) := by omega
      have t2 : ¬ (j * 2 = k * 2) := by omega
      have t3 : ¬ (j * 2 + 1 = k * 2 + 1) := by omega
      have t4 : ¬ (j * 2 + 1 = k * 2) := by omega
      simp only [t1, t2, t3, t4, if_false, e]
      obtain ⟨e0, e1⟩ := he j (by omega)
      have e2 : OwnV u lo wr.heap.size (F (j * 2 + 1)) (bs j) (fs.getD j (0, [])).2 := e1.keep fun _ a _ => hb.block _ a
      exact ⟨e0, (e2.mono (Nat.le_refl _) hs).keep fun _ _ hc => far _ (ne _ hc)⟩
  · by_cases e : j = k
    · subst e
      have e' : i ≠ j := by omega
      simp only [if_pos, e', if_false]
      have := hlt i hij hi0
      rw [hf] at hj0
      have := hq hj0
      omega
    · have e' : i ≠ k := by omega
      simp only [e, e', if_false]
      exact hd i j hij (by omega) hi0 hj0

theorem makeAtoms (n : Nat) (hn : n ≤ 1048576) :
    ∃ C : Array Value, (∀ i, i < n * 2 → C[i]? = some (if i % 2 = 0 then .int .i64 0 else .slice none 0 0)) ∧ C.size = n * 2 ∧ ∀ W : World, (Instr.makeSlice 27 (.int .i64 (n : Int)) (.int .i64 (n : Int))).run Tryz.prog W = .ok (.slice (some ⟨W.heap.size, 0, none⟩) n n) (W.alloc (.cells C 67)) := by
  obtain ⟨i0, hi, hz0, hz1, hz2⟩ := info_parts fact_info
  refine ⟨madeCells #[.int .i64 0, .slice none 0 0] (n * 2), fun i hin => ?_, size_madeCells _ _, fun W => ?_⟩
  · rcases Nat.mod_two_eq_zero_or_one i with h | h
    · simp [madeCells, hin, h]
    · simp [madeCells, hin, h]
  · have h := run_make (P := Tryz.prog) W 27 67 i0 (.agg #[.int .i64 0, .slice none 0 0]) Tryz.underlying27 hi hz0 .i64 .i64 (n : Int) (n : Int) (by omega) (by omega) (by rw [hz2]; omega) (by omega)
    rw [hz1, show ((n : Int)).toNat = n by omega] at h
    exact h

set_option maxHeartbeats 1000000 in
set_option maxRecDepth 100000 in
theorem toAtomS_any (A : Option Addr) (c : Nat) (fs : FL) (hz : szF fs ≤ 1048576) (w : World) (h : RF w A fs) :
    Calls Tryz.prog 41 #[.slice A fs.length c] w fun e w' => e = .returned (.slice (some ⟨w.heap.size, 0, none⟩) fs.length fs.length) ∧ OwnP w' w.heap.size w'.heap.size w.heap.size (fs.length * 2) fs.length fs ∧ Below w.heap.size w w' ∧ w.heap.size < w'.heap.size := by
  have hl := szF_len hz
  obtain ⟨C, hC, hCs, hmk⟩ := makeAtoms fs.length hl
  have HI := Lib.hid h
  have HC := Lib.hid hC
  have HS := Lib.hid hCs
  clear h hC hCs
  have hl' : (fs.length : Int) ≤ 1048576 := by omega
  go_enter Tryz.func41, Tryz.ntmps41
  go_wp2
  go_loopw [4] (fun i wr => ∃ k : Nat, k ≤ fs.length ∧ i = .int .i64 k ∧ OwnP wr w.heap.size wr.heap.size w.heap.size (fs.length * 2) k fs ∧ Below w.heap.size w wr) (fun i _ => fs.length - (intOf i).toNat)
  case atStart =>
    refine ⟨0, by omega, rfl, ⟨Nat.le_refl _, by simp, fun i => if i % 2 = 0 then .int .i64 0 else .slice none 0 0, fun _ => 0, ⟨C, by rw [heap_alloc_new], HS.out, fun i hi => HC.out i hi⟩, fun j hj => by omega, fun i j _ hj => by omega⟩, below_alloc _ _⟩
  case round =>
    obtain ⟨k, hk, rfl, ho, hb⟩ := hrel
    have HO := Lib.hid ho
    clear ho
    by_cases hlt : k < fs.length
    · generalize hf : fs.getD k (0, []) = f
      obtain ⟨r, xs⟩ := f
      have HF := Lib.hid hf
      have hxl : xs.length ≤ 1048576 := by have := szF_elem hz hlt; rw [hf] at this; exact this
      obtain ⟨b, off, B, c2, rfl, _, e0, e1, hxc, hcm, hI⟩ := (HI.out.step hb).at_ hlt hf
      clear hf
      unfold maxLen at hcm
      have HX := Lib.hid hI
      clear hI
      go_wp2_with fail
      refine (toAtom_r r xs B c2 hxl _ HX.out).mono ?_
      rintro e u ⟨rfl, hr, d, hz⟩
      have hg : w.heap.size < wr.heap.size := HO.out.2.1
      obtain ⟨F, bs, hrow, _, _⟩ := HO.out.2.2
      have hrow2 : u.rowIs w.heap.size 67 (fs.length * 2) F := World.rowIs.of_block hrow (d.block _ hg)
      have q0 := hrow2.cell (show k * 2 < fs.length * 2 by omega)
      have q1 := hrow2.cell (show k * 2 + 1 < fs.length * 2 by omega)
      have q2 := hrow2.frozen (k * 2)
      have q3 := hrow2.frozen (k * 2 + 1)
      have HU := Lib.hid hz
      have HR := Lib.hid hr
      clear hrow hrow2 hz hr
      go_wp2
      go_roundw
      case rel =>
        refine ⟨k + 1, by omega, by go_num, own_step HO.out (by omega) HF.out d (OwnV.of_row HR.out (by omega) (by rw [HU.out]; omega) (Nat.le_refl _) (by unfold maxLen; omega)) (fun _ => by omega), ?_⟩
        exact ((hb.trans (d.mono hb.size)).setCell (Nat.le_refl _) _).setCell (Nat.le_refl _) _
      case measure => simp [intOf]; omega
    · obtain rfl : k = fs.length := by omega
      go_wp2
      go_ret
      exact ⟨rfl, HO.out, hb, HO.out.2.1⟩
theorem OwnP.rf {w : World} {lo g m : Nat} {fs : FL} (h : OwnP w lo w.heap.size g m fs.length fs) (hm : fs.length * 2 ≤ m) : RF w (some ⟨g, 0, none⟩) fs := (h.facts hm).mono (Nat.zero_le _) (Nat.le_refl _)
theorem toAtomS_r (A : Option Addr) (c : Nat) (fs : FL) (hz : szF fs ≤ 1048576) (w : World) (h : RF w A fs) :
    Calls Tryz.prog 41 #[.slice A fs.length c] w fun e w' => e = .returned (.slice (some ⟨w.heap.size, 0, none⟩) fs.length fs.length) ∧ RF w' (some ⟨w.heap.size, 0, none⟩) fs ∧ Below w.heap.size w w' ∧ w.heap.size < w'.heap.size :=
  (toAtomS_any A c fs hz w h).mono fun _ _ ⟨a, b, c, d⟩ => ⟨a, b.rf (Nat.le_refl _), c, d⟩

set_option maxRecDepth 100000 in
set_option maxHeartbeats 1000000 in
theorem eqAtomS_r (A A' : Option Addr) (c c' : Nat) (fs : FL) (hz : szF fs ≤ 1048576) (w : World) (h : RF w A fs) (h' : RF w A' fs) :
    Calls Tryz.prog 47 #[.slice A fs.length c, .slice A' fs.length c'] w fun e w' => e = .returned (.bool true) ∧ Below w.heap.size w w' := by
  have hl := szF_len hz
  have hl' : (fs.length : Int) ≤ 1048576 := by omega
  have HI := Lib.hid h
  have HJ := Lib.hid h'
  clear h h'
  go_enter Tryz.func47, Tryz.ntmps47
  go_wp2
  go_loopw [5] (fun i wr => ∃ k : Nat, k ≤ fs.length ∧ i = .int .i64 k ∧ Below w.heap.size w wr) (fun i _ => fs.length - (intOf i).toNat)
  case atStart => exact ⟨0, by omega, rfl, Below.refl _ _⟩
  case round =>
    obtain ⟨k, hk, rfl, hb⟩ := hrel
    by_cases hlt : k < fs.length
    · generalize hf : fs.getD k (0, []) = f
      obtain ⟨r, xs⟩ := f
      have hxl : xs.length ≤ 1048576 := by have := szF_elem hz hlt; rw [hf] at this; exact this
      obtain ⟨b, off, B, c2, rfl, n1, e0, e1, _, _, hI⟩ := (HI.out.step hb).at_ hlt hf
      obtain ⟨b', off', B', c2', rfl, n2, e0', e1', _, _, hI'⟩ := (HJ.out.step hb).at_ hlt hf
      have HX := Lib.hid hI
      have HX' := Lib.hid hI'
      clear hf hI hI'
      have hk0 : (0 : Int) ≤ (k : Int) := by omega
      have hk1 : (k : Int) < (fs.length : Int) := by omega
      go_wp2
      go_region_held3 (fun w' => w'.cell? ⟨b, off + k * 2, none⟩ = some (.int .i64 r) ∧ w'.cell? ⟨b, off + k * 2 + 1, none⟩ = some (.slice B xs.length c2) ∧ w'.cell? ⟨b', off' + k * 2, none⟩ = some (.int .i64 r) ∧ w'.cell? ⟨b', off' + k * 2 + 1, none⟩ = some (.slice B' xs.length c2'))
        (first
          | go_keep
          | (go_split_ands; refine ⟨?_, ?_, ?_, ?_⟩ <;> (rw [d.cell (by (try simp) <;> omega)]; assumption)))
        (first
          | (go_at_call 95; refine (eqAtom_r r xs B B' c2 c2' hxl _ (by first | exact HX.out | exact HX.out.step (below_drew _)) (by first | exact HX'.out | exact HX'.out.step (below_drew _))).mono ?_; rintro e u ⟨rfl, d⟩))
      have hb2 : Below w.heap.size w u := by first | exact step hb d | exact step hb (und d)
      clear d
      go_wp2
      go_roundw
      case rel => exact ⟨k + 1, by omega, by go_num, by first | exact hb2 | exact hb2.drew⟩
      case measure => simp [intOf]; omega
    · obtain rfl : k = fs.length := by omega
      go_wp2
      go_ret
      exact ⟨rfl, hb⟩
/-- The slice value v owns a row that is the facts fs. -/
def OwnC (w : World) (lo hi : Nat) (v : Value) (fs : FL) (cs : List Value) (bs : Nat → Nat) : Prop := w.ownsRow lo 67 2 v fs.length cs ∧ Items w lo hi fs cs bs

theorem OwnC.step {w w' : World} {lo : Nat} {v : Value} {fs : FL} {cs : List Value} {bs : Nat → Nat} (h : OwnC w lo w.heap.size v fs cs bs) (b : Below w.heap.size w w') : OwnC w' lo w'.heap.size v fs cs bs :=
  ⟨h.1.kept (own_none b) (by rcases hv : v.ownBlock with _ | g <;> simp), (h.2.keep fun q _ h2 _ => b.block q h2).mono (Nat.le_refl _) b.size⟩
theorem OwnC.cur {w w' : World} {lo hi : Nat} {v : Value} {fs : FL} {cs : List Value} {bs : Nat → Nat} (h : OwnC w lo hi v fs cs bs) (hhi : hi ≤ w.heap.size) (b : Below w.heap.size w w') : OwnC w' lo hi v fs cs bs :=
  ⟨h.1.kept (own_none b) (by rcases hv : v.ownBlock with _ | g <;> simp), h.2.keep fun q _ h2 _ => b.block q (by omega)⟩
theorem OwnC.lo {w : World} {lo lo' hi : Nat} {v : Value} {fs : FL} {cs : List Value} {bs : Nat → Nat} (h : OwnC w lo hi v fs cs bs) (a : lo' ≤ lo) : OwnC w lo' hi v fs cs bs := by
  obtain ⟨⟨h1, h2⟩, h3⟩ := h
  refine ⟨⟨h1, ?_⟩, h3.mono a (Nat.le_refl _)⟩
  rcases h2 with h2 | ⟨g, cap, cur, hv, hb, hr⟩
  · exact .inl h2
  · exact .inr ⟨g, cap, cur, hv, Nat.le_trans a hb, hr⟩

/-- Behind an append: the row is longer, all numbers are where they were. -/
theorem own_append {w w' : World} {lo mid : Nat} {v v' : Value} {fs gs : FL} {cs ds : List Value} {bs bs' : Nat → Nat} (h : OwnC w lo mid v fs cs bs) (h' : Items w mid w.heap.size gs ds bs') (a : lo ≤ mid) (b : mid ≤ w.heap.size)
    (hown : w'.ownsRow lo 67 2 v' (fs.length + gs.length) (cs ++ ds)) (hg : w.grownBy w' v.ownBlock) : ∃ bs2, OwnC w' lo w'.heap.size v' (fs ++ gs) (cs ++ ds) bs2 := by
  have hI := h.2.append h' a b
  refine ⟨_, by rw [List.length_append]; exact hown, (hI.keep fun q _ hq ⟨c, hc⟩ => hg.block q hq fun e => ?_).mono (Nat.le_refl _) hg.size⟩
  rcases h.1.2 with ⟨rfl, _⟩ | ⟨g, cap, cur, rfl, _, hh, _⟩
  · simp [Value.ownBlock] at e
  · have : g = q := own_some e.symm
    subst this
    rw [hc] at hh
    injection hh with hh
    injection hh with _ ht
    exact absurd ht (by decide)

/-- A row that was made in full. -/
theorem OwnC.of_P {w : World} {lo g : Nat} {fs : FL} (h : OwnP w lo w.heap.size g (fs.length * 2) fs.length fs) (hl : fs.length ≤ 1048576) : ∃ cs bs, OwnC w lo w.heap.size (.slice (some ⟨g, 0, none⟩) fs.length fs.length) fs cs bs := by
  obtain ⟨h1, h2, F, bs, hr, he, hd⟩ := h
  obtain ⟨c, hc, hcs, hF⟩ := hr
  refine ⟨c.toList, bs, ⟨by simpa using hcs, .inr ⟨g, fs.length, c, rfl, h1, hc, Nat.le_refl _, by unfold maxLen; omega, hcs, ?_⟩⟩, by simpa using hcs, fun k hk => ?_, hd⟩
  · rw [List.take_of_length_le (by simp [hcs])]
  · obtain ⟨e0, e1⟩ := he k hk
    refine ⟨?_, F (k * 2 + 1), ?_, e1⟩
    · rw [Array.getElem?_toList, hF _ (by omega), e0]
    · rw [Array.getElem?_toList, hF _ (by omega)]
theorem OwnC.to_P {w : World} {lo g n cap : Nat} {fs : FL} {cs : List Value} {bs : Nat → Nat} (h : OwnC w lo w.heap.size (.slice (some ⟨g, 0, none⟩) n cap) fs cs bs) : n = fs.length ∧ n ≤ cap ∧ OwnP w lo w.heap.size g (cap * 2) fs.length fs := by
  obtain ⟨⟨hl, h⟩, h1, h2, h3⟩ := h
  rcases h with ⟨h, _⟩ | ⟨g', cap', cur, hv, hb, hg, hnc, hcm, hcs, htk⟩
  · cases h
  · injection hv with e1 e2 e3
    injection e1 with e1
    injection e1 with e1
    subst e1 e3
    have hlt : g < w.heap.size := by
      rcases Nat.lt_or_ge g w.heap.size with hlt | hge
      · exact hlt
      · rw [Array.getElem?_eq_none hge] at hg; cases hg
    have at_ : ∀ i u, cs[i]? = some u → cur.getD i undef = u := fun i u hu => by
      have hi : i < fs.length * 2 := by have := (List.getElem?_eq_some_iff.1 hu).1; omega
      rw [← htk, List.getElem?_take_of_lt hi, Array.getElem?_toList] at hu
      simp [Array.getD_eq_getD_getElem?, hu]
    refine ⟨e2, by omega, hb, hlt, fun i => cur.getD i undef, bs, ⟨cur, hg, hcs, fun i hi => by simp [Array.getD_eq_getD_getElem?, show i < cur.size by omega]⟩, fun j hj => ?_, h3⟩
    obtain ⟨e0, v1, e1, hv⟩ := h2 j hj
    exact ⟨at_ _ _ e0, by show OwnV w lo w.heap.size (cur.getD (j * 2 + 1) undef) (bs j) _; rw [at_ _ _ e1]; exact hv⟩
theorem OwnC.form {w : World} {lo hi : Nat} {v : Value} {fs : FL} {cs : List Value} {bs : Nat → Nat} (h : OwnC w lo hi v fs cs bs) : ∃ A c, v = .slice A fs.length c := by
  rcases h.1.2 with ⟨rfl, h0⟩ | ⟨g, cap, _, rfl, _⟩
  · exact ⟨none, 0, by rw [h0]⟩
  · exact ⟨_, _, rfl⟩
theorem OwnC.rf {w : World} {lo n c : Nat} {A : Option Addr} {fs : FL} {cs : List Value} {bs : Nat → Nat} (h : OwnC w lo w.heap.size (.slice A n c) fs cs bs) : RF w A fs := by
  rcases A with _ | ⟨g, off, spot⟩
  · intro hne
    rcases h.1.2 with ⟨_, h0⟩ | ⟨g, cap, _, hv, _⟩
    · exact absurd (List.eq_nil_of_length_eq_zero h0) hne
    · cases hv
  · have hg : off = 0 ∧ spot = none := by
      rcases h.1.2 with ⟨hv, _⟩ | ⟨g', cap, _, hv, _⟩
      · cases hv
      · injection hv with e1
        injection e1 with e1
        injection e1 with _ e2 e3
        exact ⟨e2, e3⟩
    obtain ⟨rfl, rfl⟩ := hg
    obtain ⟨e, hc, hp⟩ := h.to_P
    exact hp.rf (by omega)
theorem OwnP.congr {w : World} {lo hi g m k : Nat} {fs gs : FL} (h : OwnP w lo hi g m k fs) (e : ∀ j, j < k → gs.getD j (0, []) = fs.getD j (0, [])) : OwnP w lo hi g m k gs := by
  obtain ⟨h1, h2, F, bs, hr, he, hd⟩ := h
  refine ⟨h1, h2, F, bs, hr, fun j hj => by rw [e j hj]; exact he j hj, fun i j hij hj => ?_⟩
  rw [e i (by omega), e j hj]
  exact hd i j hij hj

/-- Atom k is marked: its number first, then its values. -/
theorem mark_step {w w2 : World} {lo hi g m k : Nat} {q : Int} {fs : FL} {F : Nat → Value} {bs : Nat → Nat} (h1 : lo ≤ g) (h2 : g < hi) (hr : w.rowIs g 67 m F)
    (he : ∀ j, j < fs.length → F (j * 2) = .int .i64 ((mkK q fs k).getD j (0, [])).1 ∧ OwnV w lo hi (F (j * 2 + 1)) (bs j) ((mkK q fs k).getD j (0, [])).2)
    (hd : ∀ i j, i < j → j < fs.length → 0 < ((mkK q fs k).getD i (0, [])).2.length → 0 < ((mkK q fs k).getD j (0, [])).2.length → bs i ≠ bs j)
    (hk : k < fs.length) (hm : fs.length * 2 ≤ m)
    (hw : (0 < (fs.getD k (0, [])).2.length ∧ Within (bs k) (bs k + 1) (w.setCell ⟨g, k * 2, none⟩ (.int .i64 (offs q fs k))) w2 ∧
        ∃ (mk : Nat) (Fk : Nat → Value), (fs.getD k (0, [])).2.length ≤ mk ∧ w2.rowIs (bs k) 3 mk (fun i => if i < (fs.getD k (0, [])).2.length then .int .i64 (offs q fs k + 1 + i) else Fk i)) ∨
      ((fs.getD k (0, [])).2.length = 0 ∧ w2 = w.setCell ⟨g, k * 2, none⟩ (.int .i64 (offs q fs k)))) :
    OwnP w2 lo hi g m fs.length (mkK q fs (k + 1)) ∧ Within lo hi w w2 := by
  have hk0 := he k hk
  rw [mkK_getD q fs k k hk, if_neg (by omega)] at hk0
  have lens : ∀ j, j < fs.length → ∀ k', ((mkK q fs k').getD j (0, [])).2.length = (fs.getD j (0, [])).2.length := fun j hj k' => by
    rw [mkK_getD q fs k' j hj]
    split
    · rw [mkE, marks_length]
    · rfl
  have hwithin : Within lo hi w w2 := by
    have h0 : Within lo hi w (w.setCell ⟨g, k * 2, none⟩ (.int .i64 (offs q fs k))) := (Within.refl _ _ _).set h1 h2 _
    rcases hw with ⟨hp, hwi, _⟩ | ⟨_, rfl⟩
    · obtain ⟨a, b⟩ := hk0.2.rng hp
      exact h0.trans (hwi.mono a (by omega))
    · exact h0
  have hne : ∀ j, j < fs.length → 0 < (fs.getD j (0, [])).2.length → bs j ≠ g := fun j hj hp e => by
    obtain ⟨_, A, c, _, _, _, hx⟩ := he j hj
    obtain ⟨_, _, _, mm, FF, _, hrow, _⟩ := hx (by rw [lens j hj]; exact hp)
    obtain ⟨c1, hc1, _⟩ := hrow
    obtain ⟨c2, hc2, _⟩ := hr
    rw [e] at hc1
    rw [hc1] at hc2
    injection hc2 with hc2
    injection hc2 with _ ht
    exact absurd ht (by decide)
  have hrow1 := hr.set (k * 2) (.int .i64 (offs q fs k))
  have hg2 : w2.rowIs g 67 m (fun j => if j = k * 2 then .int .i64 (offs q fs k) else F j) := by
    rcases hw with ⟨hp, hwi, _⟩ | ⟨_, rfl⟩
    · have hn := hne k hk hp
      exact World.rowIs.of_block hrow1 (hwi.block g (by omega))
    · exact hrow1
  refine ⟨⟨h1, h2, _, bs, hg2, fun j hj => ?_, fun i j hij hj hi0 hj0 => ?_⟩, hwithin⟩
  · have t1 : ¬ (j * 2 + 1 = k * 2) := by omega
    simp only [t1, if_false]
    by_cases e : j = k
    · subst e
      rw [show (mkK q fs (j + 1)).getD j (0, []) = mkE q fs j from (mkK_getD q fs (j + 1) j hj).trans (if_pos (by omega))]
      refine ⟨if_pos rfl, ?_⟩
      obtain ⟨A, c, hv, hc, hcm, hx⟩ := hk0.2
      refine ⟨A, c, by rw [hv, mkE, marks_length], by rw [mkE, marks_length]; exact hc, hcm, fun hp => ?_⟩
      rw [mkE, marks_length] at hp
      rcases hw with ⟨_, hwi, mk, Fk, hmk, hrk⟩ | ⟨h0, _⟩
      · obtain ⟨a1, a2, a3, _⟩ := hx hp
        refine ⟨a1, a2, a3, mk, _, by rw [mkE, marks_length]; exact hmk, hrk, fun i hi => ?_⟩
        rw [mkE, marks_length] at hi
        rw [mkE, marks_getD _ _ _ hi, if_pos hi]
      · omega
    · have t2 : ¬ (j * 2 = k * 2) := by omega
      simp only [t2, if_false]
      rw [mkK_getD q fs (k + 1) j hj]
      have hj1 := he j hj
      rw [mkK_getD q fs k j hj] at hj1
      have e2 : (if j < k + 1 then mkE q fs j else fs.getD j (0, [])) = (if j < k then mkE q fs j else fs.getD j (0, [])) := by
        by_cases h : j < k
        · rw [if_pos h, if_pos (by omega)]
        · rw [if_neg h, if_neg (by omega)]
      rw [e2]
      refine ⟨hj1.1, hj1.2.keep_len fun hp _ _ => ?_⟩
      have hp2 : 0 < (fs.getD j (0, [])).2.length := by
        have := lens j hj k
        rw [mkK_getD q fs k j hj] at this
        omega
      have hjg := hne j hj hp2
      have hs := Below.heap_setCell w ⟨g, k * 2, none⟩ (.int .i64 (offs q fs k)) (bs j) hjg
      rcases hw with ⟨hpk, hwi, _⟩ | ⟨_, rfl⟩
      · have hjk : bs j ≠ bs k := by
          rcases Nat.lt_or_gt_of_ne e with h | h
          · exact hd j k h hk (by rw [lens j hj]; exact hp2) (by rw [lens k hk]; exact hpk)
          · exact fun x => hd k j h hj (by rw [lens k hk]; exact hpk) (by rw [lens j hj]; exact hp2) x.symm
        exact (hwi.block (bs j) (by omega)).trans hs
      · exact hs
  · rw [lens i (by omega)] at hi0
    rw [lens j hj] at hj0
    exact hd i j hij hj (by rw [lens i (by omega)]; exact hi0) (by rw [lens j hj]; exact hj0)

set_option maxRecDepth 100000 in
set_option maxHeartbeats 1000000 in
theorem markAtomS_any (lo hi g m c : Nat) (q : Int) (fs : FL) (hz : szF fs ≤ 1048577) (h0 : 0 ≤ q) (h1 : q ≤ 16777216) (hm : fs.length * 2 ≤ m) (w : World) (h : OwnP w lo hi g m fs.length fs) :
    Calls Tryz.prog 48 #[.slice (some ⟨g, 0, none⟩) fs.length c, .int .i64 q] w fun e w' => e = .returned (.int .i64 (q + szF fs)) ∧ OwnP w' lo hi g m fs.length (mkK q fs fs.length) ∧ Within lo hi w w' := by
  have hl : fs.length ≤ 1048577 := by unfold szF at hz; omega
  have hl' : (fs.length : Int) ≤ 1048577 := by omega
  have HI := Lib.hid (h.congr fun j hj => (mkK_getD q fs 0 j hj).trans (if_neg (by omega)))
  clear h
  go_enter Tryz.func48, Tryz.ntmps48
  go_wp2
  go_loopw [1, 5] (fun z i wr => ∃ k : Nat, k ≤ fs.length ∧ i = .int .i64 k ∧ z = .int .i64 (offs q fs k) ∧ OwnP wr lo hi g m fs.length (mkK q fs k) ∧ Within lo hi w wr) (fun _ i _ => fs.length - (intOf i).toNat)
  case atStart => exact ⟨0, by omega, rfl, by simp [offs, sumN], HI.out, Within.refl _ _ _⟩
  case round =>
    obtain ⟨k, hk, rfl, rfl, ho, hw⟩ := hrel
    have OR := offs_rng q fs k hk
    by_cases hlt : k < fs.length
    · obtain ⟨hlo, hhi, F, bs, hr, he, hd⟩ := ho
      have hk1 := he k hlt
      rw [mkK_getD q fs k k hlt, if_neg (by omega)] at hk1
      have OS := offs_succ q fs k hlt
      have OR2 := offs_rng q fs (k + 1) (by omega)
      obtain ⟨A, cc, hv, hxc, hxm, hx⟩ := hk1.2
      have MS := Lib.hid fun (w2 : World) => mark_step (w := wr) (w2 := w2) hlo hhi hr he hd hlt hm
      have q0 := hr.cell (show k * 2 < m by omega)
      have q1 := hr.cell (show k * 2 + 1 < m by omega)
      rw [hv] at q1
      have q2 := hr.frozen (k * 2)
      have HW := Lib.hid hw
      have NG := Lib.hid (fun hp => (hx hp).1)
      have NR := Lib.hid (fun hp => (hx hp).2.2.2)
      have NE := Lib.hid (show 0 < (fs.getD k (0, [])).2.length → bs k ≠ g from fun hp e => by
        obtain ⟨_, _, _, mm, FF, _, hrow, _⟩ := hx hp
        obtain ⟨c1, hc1, _⟩ := hrow
        obtain ⟨c2, hc2, _⟩ := hr
        rw [e] at hc1
        rw [hc1] at hc2
        injection hc2 with hc2
        injection hc2 with _ ht
        exact absurd ht (by decide))
      have hxl : (fs.getD k (0, [])).2.length ≤ 1048576 := by
        have h1 := sumN_take fs k hlt
        have h2 := sumN_le fs (k + 1)
        unfold szF at hz
        omega
      generalize hxs : (fs.getD k (0, [])).2 = xs at MS NG NR NE OS q1 hxl
      generalize ho : offs q fs k = o at OR OS MS ⊢
      have HS := Lib.hid OS
      have o1 := OR.1
      have o2 : o ≤ 33554432 := by omega
      have o3 : (xs.length : Int) ≤ 1048576 := by omega
      clear hv hx hr he hd hw hk1 hxs ho OS OR OR2
      by_cases hx0 : xs.length = 0
      · have hx1 : xs = [] := List.eq_nil_of_length_eq_zero hx0
        subst hx1
        go_wp2_with fail
        refine (markIntS_zero A cc (o + 1) _ (by omega) (by omega)).mono ?_
        rintro e u ⟨rfl, rfl⟩
        have M := MS.out (wr.setCell ⟨g, k * 2, none⟩ (.int .i64 o)) (.inr ⟨rfl, rfl⟩)
        have HM := Lib.hid M
        clear M
        go_wp2
        go_roundw
        case rel => exact ⟨k + 1, by omega, by go_num, by rw [HS.out]; simp, HM.out.1, HW.out.trans HM.out.2⟩
        case measure => simp [intOf]; omega
      · have hxp : 0 < xs.length := by omega
        obtain ⟨mk, Fk, hmk, hrow, _⟩ := NR.out hxp
        have nA := NG.out hxp
        subst nA
        have hne := NE.out hxp
        have HROW := Lib.hid hrow
        have HR1 := Lib.hid (World.rowIs.of_block hrow (Below.heap_setCell wr ⟨g, k * 2, none⟩ (.int .i64 o) (bs k) hne))
        clear hrow hx0
        go_wp2_with fail
        refine (markIntS_any (some ⟨bs k, 0, none⟩) (bs k) cc xs.length mk (o + 1) _ hxl (by omega) (by omega) Fk (fun _ => rfl) hmk (fun _ => HR1.out)).mono ?_
        rintro e u ⟨rfl, hwi, hru⟩
        have HM := Lib.hid (MS.out u (.inl ⟨hxp, hwi, mk, Fk, hmk, hru hxp⟩))
        clear hwi hru
        go_wp2
        go_roundw
        case rel => exact ⟨k + 1, by omega, by go_num, by rw [HS.out], HM.out.1, HW.out.trans HM.out.2⟩
        case measure => simp [intOf]; omega
    · obtain rfl : k = fs.length := by omega
      go_wp2
      go_ret
      exact ⟨ret_int (offs_end q fs), ho, hw⟩

set_option maxRecDepth 100000 in
set_option maxHeartbeats 1000000 in
theorem heldAtomS_any (A : Option Addr) (c : Nat) (q : Int) (fs : FL) (hz : szF fs ≤ 1048577) (h0 : 0 ≤ q) (h1 : q ≤ 1048577) (w : World) (h : RF w A (mkK q fs fs.length)) :
    Calls Tryz.prog 50 #[.slice A fs.length c, .int .i64 q] w fun e w' => e = .returned (.int .i64 (q + szF fs)) ∧ w = w' := by
  have hl : fs.length ≤ 1048577 := by unfold szF at hz; omega
  have hl' : (fs.length : Int) ≤ 1048577 := by omega
  have HI := Lib.hid h
  clear h
  go_enter Tryz.func50, Tryz.ntmps50
  go_wp2
  go_loop [1, 5] (fun z i => ∃ k : Nat, k ≤ fs.length ∧ i = .int .i64 k ∧ z = .int .i64 (offs q fs k)) (fun _ i => fs.length - (intOf i).toNat)
  case atStart => exact ⟨0, by omega, rfl, by simp [offs, sumN]⟩
  case round =>
    obtain ⟨k, hk, rfl, rfl⟩ := hrel
    have OR := offs_rng q fs k hk
    by_cases hlt : k < fs.length
    · have OS := offs_succ q fs k hlt
      have hxl : (fs.getD k (0, [])).2.length ≤ 1048576 := by
        have h1 := sumN_take fs k hlt
        have h2 := sumN_le fs (k + 1)
        unfold szF at hz
        omega
      have hf : (mkK q fs fs.length).getD k (0, []) = (offs q fs k, marks (offs q fs k + 1) (fs.getD k (0, [])).2.length) := (mkK_getD q fs fs.length k hlt).trans (if_pos hlt)
      obtain ⟨b, off, B, c2, rfl, n1, e0, e1, hxc, hcm, hI⟩ := HI.out.at_ (by rw [mkK_length]; exact hlt) hf
      rw [marks_length] at e1
      generalize (fs.getD k (0, [])).2.length = n at OS hxl e1 hI
      generalize ho : offs q fs k = o at OR OS e0 e1 hI ⊢
      have HS := Lib.hid OS
      have HH := Lib.hid hI
      have o1 := OR.1
      have o2 : o ≤ 4194304 := by omega
      have o3 : (n : Int) ≤ 1048576 := by omega
      clear hf ho OS OR hI
      go_wp2_with fail
      refine (heldIntS_any _ _ B c2 n (o + 1) _ hxl (by omega) (by omega) HH.out).mono ?_
      rintro e u ⟨rfl, rfl⟩
      have o4 : 0 ≤ o + 1 + (n : Int) := by omega
      go_wp2
      go_round
      case rel => exact ⟨k + 1, by omega, by go_num, by rw [HS.out]⟩
      case measure => simp [intOf]; omega
    · obtain rfl : k = fs.length := by omega
      go_wp2
      go_ret
      exact ⟨ret_int (offs_end q fs), rfl⟩

theorem OwnP.keep {w w' : World} {lo hi g m k : Nat} {fs : FL} (h : OwnP w lo hi g m k fs) (hk : ∀ b, lo ≤ b → b < hi → w'.heap[b]? = w.heap[b]?) : OwnP w' lo hi g m k fs := by
  obtain ⟨h1, h2, F, bs, hr, he, hd⟩ := h
  refine ⟨h1, h2, F, bs, World.rowIs.of_block hr (hk g h1 h2), fun j hj => ?_, hd⟩
  obtain ⟨e0, e1⟩ := he j hj
  exact ⟨e0, e1.keep fun a b _ => hk _ a b⟩
/-- A list of the call's own that lies below block hi, whatever is made later. -/
def PX (w : World) (lo hi g m : Nat) (fs : FL) : Prop := OwnP w lo hi g m fs.length fs ∧ hi ≤ w.heap.size ∧ fs.length * 2 ≤ m
theorem PX.step {w w' : World} {lo hi g m : Nat} {fs : FL} (h : PX w lo hi g m fs) (b : Below w.heap.size w w') : PX w' lo hi g m fs :=
  ⟨h.1.keep fun q _ hq => b.block q (by have := h.2.1; omega), Nat.le_trans h.2.1 b.size, h.2.2⟩
theorem PX.keep {w w' : World} {lo hi g m : Nat} {fs : FL} (h : PX w lo hi g m fs) (hk : ∀ b, lo ≤ b → b < hi → w'.heap[b]? = w.heap[b]?) (hs : w.heap.size ≤ w'.heap.size) : PX w' lo hi g m fs :=
  ⟨h.1.keep hk, Nat.le_trans h.2.1 hs, h.2.2⟩
theorem PX.rf {w : World} {lo hi g m : Nat} {fs : FL} (h : PX w lo hi g m fs) : RF w (some ⟨g, 0, none⟩) fs := (h.1.facts h.2.2).mono (Nat.zero_le _) h.2.1
theorem toAtomS_p (A : Option Addr) (c : Nat) (fs : FL) (hz : szF fs ≤ 1048576) (w : World) (h : RF w A fs) :
    Calls Tryz.prog 41 #[.slice A fs.length c] w fun e w' => e = .returned (.slice (some ⟨w.heap.size, 0, none⟩) fs.length fs.length) ∧ PX w' w.heap.size w'.heap.size w.heap.size (fs.length * 2) fs ∧ Below w.heap.size w w' ∧ w.heap.size < w'.heap.size :=
  (toAtomS_any A c fs hz w h).mono fun _ _ ⟨a, b, c, d⟩ => ⟨a, ⟨b, Nat.le_refl _, Nat.le_refl _⟩, c, d⟩

theorem eqAtom_b (r : Int) (xs : List Int) (A A' : Option Addr) (c c' : Nat) (hl : xs.length ≤ 2097152) (w : World) (h : RI w A xs) (h' : RI w A' xs) :
    Calls Tryz.prog 95 #[.agg #[.int .i64 r, .slice A xs.length c], .agg #[.int .i64 r, .slice A' xs.length c']] w fun e w' => e = .returned (.bool true) ∧ Below w.heap.size w w' := by
  have := eqAtom_any _ _ _ _ r r xs xs A A' c c' (by omega) (by omega) w (Nat.le_refl _) (Nat.le_refl _) h h'
  rwa [decide_eq_true rfl, decide_eq_true rfl] at this
set_option maxRecDepth 100000 in
set_option maxHeartbeats 1000000 in
theorem eqAtomS_b (A A' : Option Addr) (c c' : Nat) (fs : FL) (hz : szF fs ≤ 1048577) (w : World) (h : RF w A fs) (h' : RF w A' fs) :
    Calls Tryz.prog 47 #[.slice A fs.length c, .slice A' fs.length c'] w fun e w' => e = .returned (.bool true) ∧ Below w.heap.size w w' := by
  have hl : fs.length ≤ 1048577 := by unfold szF at hz; omega
  have hl' : (fs.length : Int) ≤ 1048577 := by omega
  have HI := Lib.hid h
  have HJ := Lib.hid h'
  clear h h'
  go_enter Tryz.func47, Tryz.ntmps47
  go_wp2
  go_loopw [5] (fun i wr => ∃ k : Nat, k ≤ fs.length ∧ i = .int .i64 k ∧ Below w.heap.size w wr) (fun i _ => fs.length - (intOf i).toNat)
  case atStart => exact ⟨0, by omega, rfl, Below.refl _ _⟩
  case round =>
    obtain ⟨k, hk, rfl, hb⟩ := hrel
    by_cases hlt : k < fs.length
    · generalize hf : fs.getD k (0, []) = f
      obtain ⟨r, xs⟩ := f
      have hxl : xs.length ≤ 2097152 := by have := szF_elem_b hz hlt; rw [hf] at this; exact this
      obtain ⟨b, off, B, c2, rfl, n1, e0, e1, _, _, hI⟩ := (HI.out.step hb).at_ hlt hf
      obtain ⟨b', off', B', c2', rfl, n2, e0', e1', _, _, hI'⟩ := (HJ.out.step hb).at_ hlt hf
      have k0 := cell_regrown e0
      have k1 := cell_regrown e1
      have k2 := cell_regrown e0'
      have k3 := cell_regrown e1'
      have HX := Lib.hid hI
      have HX' := Lib.hid hI'
      clear hf hI hI' e0 e1 e0' e1'
      have hk0 : (0 : Int) ≤ (k : Int) := by omega
      have hk1 : (k : Int) < (fs.length : Int) := by omega
      have X1 := Lib.hid fun (W : World) (hW : Below wr.heap.size wr W) => eqAtom_b r xs B B' c2 c2' hxl W (HX.out.step hW) (HX'.out.step hW)
      go_wp2
      refine wp_region_quiet_below (by kernel_rfl) (by kernel_rfl) ?_
      repeat (go_big_quiet_step (first | (go_at_call 95; with_reducible exact Calls.regrown_of (X1.out _ (below_regrown _ _ _)))))
      refine wpQuiet_nil ?_
      intro u hw'
      have hb2 : Below w.heap.size w u := by obtain ⟨⟨dq, osq⟩, rfl⟩ := hw'; exact step hb (below_regrown _ _ _)
      clear hw' k0 k1 k2 k3
      go_wp2
      go_roundw
      case rel => exact ⟨k + 1, by omega, by go_num, hb2⟩
      case measure => simp [intOf]; omega
    · obtain rfl : k = fs.length := by omega
      go_wp2
      go_ret
      exact ⟨rfl, hb⟩
end Go.Proofs.YtimlpdcambmcjaaGreat.atom
