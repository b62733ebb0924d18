/- What the functions on one fact answer. Conditions: none beyond each theorem's own. -/
import Derived.Test.YtighalbnpgmdfaaGreatFacts
import Derived.Deep.RegionHeld3
import Derived.Outline
namespace Go.Proofs.YtighalbnpgmdfaaGreat
open Go.ChangeShapes Go.WideShapes Go.ChangeAt Go.RowKit
set_option linter.unusedVariables false
set_option linter.unusedSimpArgs false

theorem set_size (w : World) (p : Addr) (u : Value) : (w.setCell p u).heap.size = w.heap.size := by simp [World.setCell]
theorem Row.set_other {w : World} {g : Nat} {xs : List Int} (h : Row w g xs) {p : Addr} {u : Value} (hp : g ≠ p.block) : Row (w.setCell p u) g xs := h.of_block (Below.heap_setCell _ _ _ _ hp)

theorem cell_new (w : World) (cs : Array Value) (t : TypeId) (i : Nat) : (w.alloc (.cells cs t)).cell? ⟨w.heap.size, i, none⟩ = cs[i]? := by
  rw [World.cell?_alloc_at _ _ _ _ rfl]
theorem below_new {w w1 : World} {o : Obj} (h : Below (w.alloc o).heap.size (w.alloc o) w1) : Below w.heap.size w w1 := ((Below.refl _ _).alloc (Nat.le_refl _) _).trans (h.mono (by simp <;> omega))
theorem cell_below_new {w w1 : World} {cs : Array Value} {t : TypeId} (h : Below (w.alloc (.cells cs t)).heap.size (w.alloc (.cells cs t)) w1) (i : Nat) : w1.cell? ⟨w.heap.size, i, none⟩ = cs[i]? := by
  rw [h.cell (p := ⟨w.heap.size, i, none⟩) (by simp), cell_new]

set_option maxRecDepth 100000 in
theorem szFact_any (f : Int × List Int) (A : Option Addr) (c : Nat) (left : Int) (hl : f.2.length ≤ 9223372036854775807) (h0 : 0 ≤ left) (h1 : left ≤ 1048576) (w : World) :
    Calls Tryz.prog 26 #[.agg #[.int .i64 f.1, .slice A f.2.length c], .int .i64 left] w fun e w' => e = .returned (.int .i64 (if left - f.2.length < 0 then -1 else left - f.2.length)) ∧ Below w.heap.size w w' := by
  obtain ⟨r, xs⟩ := f
  simp only at hl ⊢
  by_cases h : left - (xs.length : Int) < 0
  · go_enter Tryz.func26, Tryz.ntmps26
    go_wp2_with fail
    refine (szIntS_any A c xs.length left hl h0 h1 _).mono ?_
    rintro e w1 ⟨rfl, rfl⟩
    rw [if_pos h]
    go_wp2
    go_ret
    exact ⟨rfl, (Below.refl _ _).alloc (Nat.le_refl _) _⟩
  · go_enter Tryz.func26, Tryz.ntmps26
    go_wp2_with fail
    refine (szIntS_any A c xs.length left hl h0 h1 _).mono ?_
    rintro e w1 ⟨rfl, rfl⟩
    have h' : (xs.length : Int) ≤ left := by omega
    rw [if_neg (by omega)]
    go_wp2
    go_ret
    exact ⟨rfl, (Below.refl _ _).alloc (Nat.le_refl _) _⟩

set_option maxHeartbeats 400000 in
set_option maxRecDepth 100000 in
theorem toFact_any (lo hi : Nat) (r : Int) (xs : List Int) (A : Option Addr) (c : Nat) (hl : xs.length ≤ 1048576) (w : World) (hhi : hi ≤ w.heap.size) (h : Ints w lo hi A xs) :
    Calls Tryz.prog 32 #[.agg #[.int .i64 r, .slice A xs.length c]] w fun e w' => e = .returned (.agg #[.int .i64 r, .slice (some ⟨w.heap.size + 3, 0, none⟩) xs.length xs.length]) ∧
      Row w' (w.heap.size + 3) xs ∧ Below w.heap.size w w' ∧ w'.heap.size = w.heap.size + 4 := by
  have HI := Lib.hid h
  clear h
  go_enter Tryz.func32, Tryz.ntmps32
  go_wp2_with fail
  refine (toIntS_any lo hi A c xs hl _ (by simp [World.setCell]; omega) (HI.out.below (((((Below.refl _ _).alloc (Nat.le_refl _) _).alloc (by simp) _).alloc (by simp; omega) _)) hhi)).mono ?_
  rintro e w1 ⟨rfl, hr, hb, hz⟩
  obtain ⟨hc, hf⟩ := bcell hb
  have hs : (w.heap.size + 1 + 1 + 1 + 1 = w1.heap.size) := by rw [hz]; simp
  have HR := Lib.hid hr
  have HB := Lib.hid hb
  have HS := Lib.hid hs
  have HZ : w.heap.size + 2 < w1.heap.size := by omega
  clear hr hb hz hs
  go_wp2
  refine bodyPost_ret (v := .agg #[.int .i64 r, .slice (some ⟨w.heap.size + 3, 0, none⟩) xs.length xs.length]) (by simp [results, Tryz.results32, go_sem, hc, HZ]) rfl ⟨rfl, ?_, ?_, ?_⟩
  · have := HR.out
    simp at this
    exact ((this.set_other (by simp <;> omega)).set_other (by simp <;> omega)).set_other (by simp <;> omega)
  · have B := HB.out
    refine Below.setCell (Below.setCell (Below.setCell ((((((Below.refl _ _).alloc (Nat.le_refl _) _).alloc (by simp) _).alloc (by simp; omega) _)).trans (B.mono ?_)) ?_ _) ?_ _) ?_ _
    all_goals (simp; try omega)
  · rw [set_size, set_size, set_size, ← HS.out]

set_option maxHeartbeats 400000 in
set_option maxRecDepth 100000 in
theorem eqFact_any (lo hi lo' hi' : Nat) (r r' : Int) (xs ys : List Int) (A A' : Option Addr) (c c' : Nat) (hl : xs.length ≤ 140737488355328) (hl2 : ys.length ≤ 140737488355328) (w : World) (hhi : hi ≤ w.heap.size) (hhi' : hi' ≤ w.heap.size)
    (h : Ints w lo hi A xs) (h' : Ints w lo' hi' A' ys) :
    Calls Tryz.prog 39 #[.agg #[.int .i64 r, .slice A xs.length c], .agg #[.int .i64 r', .slice A' ys.length c']] w fun e w' => e = .returned (.bool (decide (r = r') && decide (xs = ys))) ∧ Below w.heap.size w w' := by
  have HI := Lib.hid h
  have HJ := Lib.hid h'
  clear h h'
  by_cases hr : r = r'
  · subst hr
    by_cases he : xs = ys
    · have D := Lib.hid (show decide (xs = ys) = true by simpa using he)
      have H : (decide (r = r) && decide (xs = ys)) = true := by simp [he]
      rw [H]
      clear H he
      go_enter Tryz.func39, Tryz.ntmps39
      go_wp2_with fail
      refine (eqIntS_any lo hi lo' hi' A A' c c' xs ys hl hl2 _ (HI.out.below (((Below.refl _ _).alloc (Nat.le_refl _) _).alloc (by simp) _) hhi) (HJ.out.below (((Below.refl _ _).alloc (Nat.le_refl _) _).alloc (by simp) _) hhi')).mono ?_
      rintro e w1 ⟨he, hb⟩
      rw [D.out] at he
      subst he
      have B : Below w.heap.size w w1 := (((Below.refl _ _).alloc (Nat.le_refl _) _).alloc (by simp) _).trans (hb.mono (by simp; omega))
      clear hb
      go_wp2
      go_ret
      exact ⟨rfl, B⟩
    · have D := Lib.hid (show decide (xs = ys) = false by simpa using he)
      have H : (decide (r = r) && decide (xs = ys)) = false := by simp [he]
      rw [H]
      clear H he
      go_enter Tryz.func39, Tryz.ntmps39
      go_wp2_with fail
      refine (eqIntS_any lo hi lo' hi' A A' c c' xs ys hl hl2 _ (HI.out.below (((Below.refl _ _).alloc (Nat.le_refl _) _).alloc (by simp) _) hhi) (HJ.out.below (((Below.refl _ _).alloc (Nat.le_refl _) _).alloc (by simp) _) hhi')).mono ?_
      rintro e w1 ⟨he, hb⟩
      rw [D.out] at he
      subst he
      have B : Below w.heap.size w w1 := (((Below.refl _ _).alloc (Nat.le_refl _) _).alloc (by simp) _).trans (hb.mono (by simp; omega))
      clear hb
      go_wp2
      go_ret
      exact ⟨rfl, B⟩
  · have H : (decide (r = r') && decide (xs = ys)) = false := by simp [hr]
    rw [H]
    have d1 : (r == r') = false := by simpa using hr
    have d2 : (r != r') = true := by simpa using hr
    clear H hr
    go_enter Tryz.func39, Tryz.ntmps39
    go_wp2
    go_ret
    exact ⟨rfl, ((Below.refl _ _).alloc (Nat.le_refl _) _).alloc (by simp) _⟩

/-- Is (r, xs) a fact of the schema s? -/
def factB (s : List Int) (r : Int) (xs : List Int) : Bool := schB s && inB r 0 ((s.length : Int) - 1) && decide ((xs.length : Int) = s.getD r.toNat 0) && allB 0 9 xs

theorem left_same {P : Program} {f : FuncId} {args : Array Value} {w : World} {v : Value} (h : Calls P f args w fun e w' => e = .returned v ∧ w = w') : Calls P f args w fun e w' => e = .returned v ∧ w' = w :=
  h.mono fun _ _ ⟨a, b⟩ => ⟨a, b.symm⟩

set_option maxHeartbeats 1000000 in
set_option maxRecDepth 100000 in
theorem spec_IsFact (lo hi lo' hi' : Nat) (S : Option Addr) (cs : Nat) (s : List Int) (r : Int) (xs : List Int) (A : Option Addr) (c : Nat) (hls : s.length ≤ 140737488355328) (hl : xs.length ≤ 140737488355328) (w : World) (hhi : hi ≤ w.heap.size) (hhi' : hi' ≤ w.heap.size)
    (h : Ints w lo hi S s) (h' : Ints w lo' hi' A xs) :
    Calls Tryz.prog 55 #[.slice S s.length cs, .agg #[.int .i64 r, .slice A xs.length c]] w fun e w' => e = .returned (.bool (factB s r xs)) ∧ Below w.heap.size w w' := by
  have hs' : (s.length : Int) ≤ 140737488355328 := by omega
  have hx' : (xs.length : Int) ≤ 140737488355328 := by omega
  have HI := Lib.hid fun o => h.below (((Below.refl _ _).alloc (Nat.le_refl w.heap.size) o)) hhi
  have HJ := Lib.hid h'
  clear h h'
  have b0 : ∀ o, Below w.heap.size w (w.alloc o) := fun o => (Below.refl _ _).alloc (Nat.le_refl w.heap.size) o
  have B0 := Lib.hid b0
  clear b0
  by_cases c1 : schB s = true
  · have C1 := Lib.hid c1
    clear c1
    by_cases c2 : inB r 0 ((s.length : Int) - 1) = true
    · have C2 := Lib.hid c2
      have hr : 0 ≤ r ∧ r ≤ (s.length : Int) - 1 := by simpa [inB] using c2
      clear c2
      obtain ⟨k, rfl⟩ := Int.eq_ofNat_of_zero_le hr.1
      have hk : k < s.length := by omega
      have hk0 : (0 : Int) ≤ (k : Int) := by omega
      have hk1 : (k : Int) < (s.length : Int) := by omega
      obtain ⟨b, off, rfl, _, hbhi, hcell⟩ := (HI.out (.cells #[.int .i64 k, .slice A xs.length c] 59)).at_ hk
      generalize hy : s.getD k 0 = y at hcell
      have HY := Lib.hid hy
      clear hy
      have X1 := Lib.hid fun W (h : Ints W lo hi (some ⟨b, off, none⟩) s) => C1.out ▸ left_same (spec_IsSchema lo hi (some ⟨b, off, none⟩) cs s hls W h)
      have X2 := Lib.hid fun W => C2.out ▸ left_same (l1In_any (k : Int) 0 ((s.length : Int) - 1) W)
      by_cases c3 : (xs.length : Int) = y
      · have d3 : ((xs.length : Int) == y) = true := by simpa using c3
        have d3' : ((xs.length : Int) != y) = false := by simpa using c3
        have C3 := Lib.hid c3
        clear c3
        go_enter Tryz.func55, Tryz.ntmps55
        go_wp2
        go_quiet ((first | (go_at_call 53; exact Calls.quiet_of_same (X1.out _ (HI.out _))) | (go_at_call 54; exact Calls.quiet_of_same (X2.out _))))
        go_wp2
        have HB := Lib.hid (below_drewN (B0.out (.cells #[.int .i64 (k : Int), .slice A xs.length c] 59)) nq)
        go_loop [5] (fun i => ∃ j : Nat, j ≤ xs.length ∧ i = .int .i64 j ∧ allB 0 9 (xs.take j) = true) (fun i => xs.length - (intOf i).toNat)
        case atStart => exact ⟨0, by omega, rfl, rfl⟩
        case round =>
          obtain ⟨j, hj, rfl, ha⟩ := hrel
          have HA := Lib.hid ha
          clear ha
          by_cases hlt : j < xs.length
          · obtain ⟨b2, off2, rfl, _, _, hc⟩ := (HJ.out.below HB.out hhi').at_ hlt
            generalize hx : xs.getD j 0 = x at hc
            have HX := Lib.hid hx
            clear hx
            by_cases hin : inB x 0 9 = true
            · have HN := Lib.hid hin
              clear hin
              go_wp2_with fail
              refine (l1In_any x 0 9 _).mono ?_
              rintro e w' ⟨rfl, rfl⟩
              rw [HN.out]
              go_wp2
              go_round
              case rel => exact ⟨j + 1, by omega, by go_num, by rw [allB_take _ _ _ _ hlt, HA.out, HX.out, HN.out]; rfl⟩
              case measure => simp [intOf]; omega
            · have HN := Lib.hid (show inB x 0 9 = false by simpa using hin)
              clear hin
              go_wp2_with fail
              refine (l1In_any x 0 9 _).mono ?_
              rintro e w' ⟨rfl, rfl⟩
              rw [HN.out]
              go_wp2
              go_ret
              exact ⟨ret_bool (by unfold factB; rw [allB_not _ _ _ j hlt (by rw [HX.out]; exact HN.out)]; simp), HB.out⟩
          · obtain rfl : j = xs.length := by omega
            go_wp2
            go_ret
            exact ⟨ret_bool (by
              unfold factB
              have := HA.out
              rw [take_all] at this
              rw [C1.out, C2.out, this, Int.toNat_natCast, HY.out, decide_eq_true C3.out]; rfl), HB.out⟩
      · have d3 : ((xs.length : Int) == y) = false := by simpa using c3
        have d3' : ((xs.length : Int) != y) = true := by simpa using c3
        have H : factB s (k : Int) xs = false := by
          unfold factB
          rw [Int.toNat_natCast, HY.out, decide_eq_false c3]
          simp
        rw [H]
        clear c3 H
        go_enter Tryz.func55, Tryz.ntmps55
        go_wp2
        go_quiet ((first | (go_at_call 53; exact Calls.quiet_of_same (X1.out _ (HI.out _))) | (go_at_call 54; exact Calls.quiet_of_same (X2.out _))))
        go_wp2
        go_ret
        exact ⟨rfl, below_drewN (B0.out _) _⟩
    · have c2' : inB r 0 ((s.length : Int) - 1) = false := by simpa using c2
      have H : factB s r xs = false := by simp [factB, c2']
      rw [H]
      have C2 := Lib.hid c2'
      clear c2 c2' H
      have X1 := Lib.hid fun W (h : Ints W lo hi S s) => C1.out ▸ left_same (spec_IsSchema lo hi S cs s hls W h)
      have X2 := Lib.hid fun W => C2.out ▸ left_same (l1In_any r 0 ((s.length : Int) - 1) W)
      go_enter Tryz.func55, Tryz.ntmps55
      go_wp2
      go_quiet ((first | (go_at_call 53; exact Calls.quiet_of_same (X1.out _ (HI.out _))) | (go_at_call 54; exact Calls.quiet_of_same (X2.out _))))
      go_wp2
      go_ret
      exact ⟨rfl, below_drewN (B0.out _) _⟩
  · have c1' : schB s = false := by simpa using c1
    have H : factB s r xs = false := by simp [factB, c1']
    rw [H]
    have C1 := Lib.hid c1'
    clear c1 c1' H
    have X1 := Lib.hid fun W (h : Ints W lo hi S s) => C1.out ▸ left_same (spec_IsSchema lo hi S cs s hls W h)
    go_enter Tryz.func55, Tryz.ntmps55
    go_wp2
    go_quiet ((first | (go_at_call 53; exact Calls.quiet_of_same (X1.out _ (HI.out _)))))
    go_wp2
    go_ret
    exact ⟨rfl, below_drewN (B0.out _) _⟩

set_option maxHeartbeats 1000000 in
set_option maxRecDepth 100000 in
theorem impl_IsFact (lo hi lo' hi' : Nat) (S : Option Addr) (cs : Nat) (s : List Int) (r : Int) (xs : List Int) (A : Option Addr) (c : Nat) (hls : s.length ≤ 140737488355328) (hl : xs.length ≤ 140737488355328) (w : World) (hhi : hi ≤ w.heap.size) (hhi' : hi' ≤ w.heap.size)
    (h : Ints w lo hi S s) (h' : Ints w lo' hi' A xs) :
    Calls Tryz.prog 65 #[.slice S s.length cs, .agg #[.int .i64 r, .slice A xs.length c]] w fun e w' => e = .returned (.bool (factB s r xs)) ∧ Below w.heap.size w w' := by
  have hs' : (s.length : Int) ≤ 140737488355328 := by omega
  have hx' : (xs.length : Int) ≤ 140737488355328 := by omega
  have HI := Lib.hid fun o => h.below (((Below.refl _ _).alloc (Nat.le_refl w.heap.size) o)) hhi
  have HJ := Lib.hid fun o => h'.below (((Below.refl _ _).alloc (Nat.le_refl w.heap.size) o)) hhi'
  clear h h'
  have b0 : ∀ o, Below w.heap.size w (w.alloc o) := fun o => (Below.refl _ _).alloc (Nat.le_refl w.heap.size) o
  have B0 := Lib.hid b0
  clear b0
  by_cases c1 : schB s = true
  · have C1 := Lib.hid c1
    clear c1
    by_cases c2 : inB r 0 ((s.length : Int) - 1) = true
    · have C2 := Lib.hid c2
      have hr : 0 ≤ r ∧ r ≤ (s.length : Int) - 1 := by simpa [inB] using c2
      clear c2
      obtain ⟨k, rfl⟩ := Int.eq_ofNat_of_zero_le hr.1
      have hk : k < s.length := by omega
      have hk0 : (0 : Int) ≤ (k : Int) := by omega
      have hk1 : (k : Int) < (s.length : Int) := by omega
      obtain ⟨b, off, rfl, _, hbhi, hcell⟩ := (HI.out (.cells #[.int .i64 k, .slice A xs.length c] 59)).at_ hk
      generalize hy : s.getD k 0 = y at hcell
      have HY := Lib.hid hy
      clear hy
      have X1 := Lib.hid fun W (h : Ints W lo hi (some ⟨b, off, none⟩) s) => C1.out ▸ left_same (impl_IsSchema lo hi (some ⟨b, off, none⟩) cs s hls W h)
      have X2 := Lib.hid fun W => C2.out ▸ left_same (isBetween_any (k : Int) 0 ((s.length : Int) - 1) W)
      by_cases c3 : (xs.length : Int) = y
      · have d3 : ((xs.length : Int) == y) = true := by simpa using c3
        have C3 := Lib.hid c3
        clear c3
        have X3 := Lib.hid fun W (h : Ints W lo' hi' A xs) => left_same (areValues_any lo' hi' A c xs hl W h)
        have H : factB s (k : Int) xs = allB 0 9 xs := by
          unfold factB
          rw [C1.out, C2.out, Int.toNat_natCast, HY.out, decide_eq_true C3.out]
          simp
        rw [H]
        clear H
        go_enter Tryz.func65, Tryz.ntmps65
        go_wp2
        go_quiet ((first | (go_at_call 64; exact Calls.quiet_of_same (X1.out _ (HI.out _))) | (go_at_call 61; exact Calls.quiet_of_same (X2.out _)) | (go_at_call 97; exact Calls.quiet_of_same (X3.out _ (HJ.out _)))))
        go_wp2
        go_ret
        exact ⟨rfl, below_drewN (B0.out _) _⟩
      · have d3 : ((xs.length : Int) == y) = false := by simpa using c3
        have H : factB s (k : Int) xs = false := by
          unfold factB
          rw [Int.toNat_natCast, HY.out, decide_eq_false c3]
          simp
        rw [H]
        clear c3 H
        go_enter Tryz.func65, Tryz.ntmps65
        go_wp2
        go_quiet ((first | (go_at_call 64; exact Calls.quiet_of_same (X1.out _ (HI.out _))) | (go_at_call 61; exact Calls.quiet_of_same (X2.out _))))
        go_wp2
        go_ret
        exact ⟨rfl, below_drewN (B0.out _) _⟩
    · have c2' : inB r 0 ((s.length : Int) - 1) = false := by simpa using c2
      have H : factB s r xs = false := by simp [factB, c2']
      rw [H]
      have C2 := Lib.hid c2'
      clear c2 c2' H
      have X1 := Lib.hid fun W (h : Ints W lo hi S s) => C1.out ▸ left_same (impl_IsSchema lo hi S cs s hls W h)
      have X2 := Lib.hid fun W => C2.out ▸ left_same (isBetween_any r 0 ((s.length : Int) - 1) W)
      go_enter Tryz.func65, Tryz.ntmps65
      go_wp2
      go_quiet ((first | (go_at_call 64; exact Calls.quiet_of_same (X1.out _ (HI.out _))) | (go_at_call 61; exact Calls.quiet_of_same (X2.out _))))
      go_wp2
      go_ret
      exact ⟨rfl, below_drewN (B0.out _) _⟩
  · have c1' : schB s = false := by simpa using c1
    have H : factB s r xs = false := by simp [factB, c1']
    rw [H]
    have C1 := Lib.hid c1'
    clear c1 c1' H
    have X1 := Lib.hid fun W (h : Ints W lo hi S s) => C1.out ▸ left_same (impl_IsSchema lo hi S cs s hls W h)
    go_enter Tryz.func65, Tryz.ntmps65
    go_wp2
    go_quiet ((first | (go_at_call 64; exact Calls.quiet_of_same (X1.out _ (HI.out _)))))
    go_wp2
    go_ret
    exact ⟨rfl, below_drewN (B0.out _) _⟩
end Go.Proofs.YtighalbnpgmdfaaGreat
