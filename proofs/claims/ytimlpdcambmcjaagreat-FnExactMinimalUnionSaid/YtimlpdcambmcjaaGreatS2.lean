/- What the functions on one fact answer. Conditions: none beyond each theorem's own. What can be read in a world, carried from call to call. Conditions: none beyond each theorem's own. What comparing two facts answers. Conditions: none beyond each theorem's own. What the two functions CompareFacts answer. Conditions: none beyond each theorem's own. -/
import Derived.Test.YtimlpdcambmcjaaGreatS1
import Derived.Deep.RegionHeld3
import Derived.Outline

namespace Go.Proofs.YtimlpdcambmcjaaGreat
open Go.ChangeShapes Go.WideShapes Go.ChangeAt Go.RowKit
set_option linter.unusedVariables false
set_option linter.unusedSimpArgs false

theorem set_size (w : World) (p : Addr) (u : Value) : (w.setCell p u).heap.size = w.heap.size := by simp [World.setCell]
theorem Row.set_other {w : World} {g : Nat} {xs : List Int} (h : Row w g xs) {p : Addr} {u : Value} (hp : g ≠ p.block) : Row (w.setCell p u) g xs := h.of_block (Below.heap_setCell _ _ _ _ hp)

theorem cell_new (w : World) (cs : Array Value) (t : TypeId) (i : Nat) : (w.alloc (.cells cs t)).cell? ⟨w.heap.size, i, none⟩ = cs[i]? := by
  rw [World.cell?_alloc_at _ _ _ _ rfl]
theorem below_new {w w1 : World} {o : Obj} (h : Below (w.alloc o).heap.size (w.alloc o) w1) : Below w.heap.size w w1 := ((Below.refl _ _).alloc (Nat.le_refl _) _).trans (h.mono (by simp <;> omega))
theorem cell_below_new {w w1 : World} {cs : Array Value} {t : TypeId} (h : Below (w.alloc (.cells cs t)).heap.size (w.alloc (.cells cs t)) w1) (i : Nat) : w1.cell? ⟨w.heap.size, i, none⟩ = cs[i]? := by
  rw [h.cell (p := ⟨w.heap.size, i, none⟩) (by simp), cell_new]

set_option maxRecDepth 100000 in
theorem szFact_any (f : Int × List Int) (A : Option Addr) (c : Nat) (left : Int) (hl : f.2.length ≤ 9223372036854775807) (h0 : 0 ≤ left) (h1 : left ≤ 1048576) (w : World) :
    Calls Tryz.prog 51 #[.agg #[.int .i64 f.1, .slice A f.2.length c], .int .i64 left] w fun e w' => e = .returned (.int .i64 (if left - f.2.length < 0 then -1 else left - f.2.length)) ∧ Below w.heap.size w w' := by
  obtain ⟨r, xs⟩ := f
  simp only at hl ⊢
  by_cases h : left - (xs.length : Int) < 0
  · go_enter Tryz.func51, Tryz.ntmps51
    go_wp2_with fail
    refine (szIntS_any A c xs.length left hl h0 h1 _).mono ?_
    rintro e w1 ⟨rfl, rfl⟩
    rw [if_pos h]
    go_wp2
    go_ret
    exact ⟨rfl, (Below.refl _ _).alloc (Nat.le_refl _) _⟩
  · go_enter Tryz.func51, Tryz.ntmps51
    go_wp2_with fail
    refine (szIntS_any A c xs.length left hl h0 h1 _).mono ?_
    rintro e w1 ⟨rfl, rfl⟩
    have h' : (xs.length : Int) ≤ left := by omega
    rw [if_neg (by omega)]
    go_wp2
    go_ret
    exact ⟨rfl, (Below.refl _ _).alloc (Nat.le_refl _) _⟩

set_option maxHeartbeats 400000 in
set_option maxRecDepth 100000 in
theorem toFact_any (lo hi : Nat) (r : Int) (xs : List Int) (A : Option Addr) (c : Nat) (hl : xs.length ≤ 1048576) (w : World) (hhi : hi ≤ w.heap.size) (h : Ints w lo hi A xs) :
    Calls Tryz.prog 55 #[.agg #[.int .i64 r, .slice A xs.length c]] w fun e w' => e = .returned (.agg #[.int .i64 r, .slice (some ⟨w.heap.size + 3, 0, none⟩) xs.length xs.length]) ∧
      Row w' (w.heap.size + 3) xs ∧ Below w.heap.size w w' ∧ w'.heap.size = w.heap.size + 4 := by
  have HI := Lib.hid h
  clear h
  go_enter Tryz.func55, Tryz.ntmps55
  go_wp2_with fail
  refine (toIntS_any lo hi A c xs hl _ (by simp [World.setCell]; omega) (HI.out.below (((((Below.refl _ _).alloc (Nat.le_refl _) _).alloc (by simp) _).alloc (by simp; omega) _)) hhi)).mono ?_
  rintro e w1 ⟨rfl, hr, hb, hz⟩
  obtain ⟨hc, hf⟩ := bcell hb
  have hs : (w.heap.size + 1 + 1 + 1 + 1 = w1.heap.size) := by rw [hz]; simp
  have HR := Lib.hid hr
  have HB := Lib.hid hb
  have HS := Lib.hid hs
  have HZ : w.heap.size + 2 < w1.heap.size := by omega
  clear hr hb hz hs
  go_wp2
  refine bodyPost_ret (v := .agg #[.int .i64 r, .slice (some ⟨w.heap.size + 3, 0, none⟩) xs.length xs.length]) (by simp [results, Tryz.results55, go_sem, hc, HZ]) rfl ⟨rfl, ?_, ?_, ?_⟩
  · have := HR.out
    simp at this
    exact ((this.set_other (by simp <;> omega)).set_other (by simp <;> omega)).set_other (by simp <;> omega)
  · have B := HB.out
    refine Below.setCell (Below.setCell (Below.setCell ((((((Below.refl _ _).alloc (Nat.le_refl _) _).alloc (by simp) _).alloc (by simp; omega) _)).trans (B.mono ?_)) ?_ _) ?_ _) ?_ _
    all_goals (simp; try omega)
  · rw [set_size, set_size, set_size, ← HS.out]

set_option maxHeartbeats 400000 in
set_option maxRecDepth 100000 in
theorem eqFact_any (lo hi lo' hi' : Nat) (r r' : Int) (xs ys : List Int) (A A' : Option Addr) (c c' : Nat) (hl : xs.length ≤ 140737488355328) (hl2 : ys.length ≤ 140737488355328) (w : World) (hhi : hi ≤ w.heap.size) (hhi' : hi' ≤ w.heap.size)
    (h : Ints w lo hi A xs) (h' : Ints w lo' hi' A' ys) :
    Calls Tryz.prog 61 #[.agg #[.int .i64 r, .slice A xs.length c], .agg #[.int .i64 r', .slice A' ys.length c']] w fun e w' => e = .returned (.bool (decide (r = r') && decide (xs = ys))) ∧ Below w.heap.size w w' := by
  have HI := Lib.hid h
  have HJ := Lib.hid h'
  clear h h'
  by_cases hr : r = r'
  · subst hr
    by_cases he : xs = ys
    · have D := Lib.hid (show decide (xs = ys) = true by simpa using he)
      have H : (decide (r = r) && decide (xs = ys)) = true := by simp [he]
      rw [H]
      clear H he
      go_enter Tryz.func61, Tryz.ntmps61
      go_wp2_with fail
      refine (eqIntS_any lo hi lo' hi' A A' c c' xs ys hl hl2 _ (HI.out.below (((Below.refl _ _).alloc (Nat.le_refl _) _).alloc (by simp) _) hhi) (HJ.out.below (((Below.refl _ _).alloc (Nat.le_refl _) _).alloc (by simp) _) hhi')).mono ?_
      rintro e w1 ⟨he, hb⟩
      rw [D.out] at he
      subst he
      have B : Below w.heap.size w w1 := (((Below.refl _ _).alloc (Nat.le_refl _) _).alloc (by simp) _).trans (hb.mono (by simp; omega))
      clear hb
      go_wp2
      go_ret
      exact ⟨rfl, B⟩
    · have D := Lib.hid (show decide (xs = ys) = false by simpa using he)
      have H : (decide (r = r) && decide (xs = ys)) = false := by simp [he]
      rw [H]
      clear H he
      go_enter Tryz.func61, Tryz.ntmps61
      go_wp2_with fail
      refine (eqIntS_any lo hi lo' hi' A A' c c' xs ys hl hl2 _ (HI.out.below (((Below.refl _ _).alloc (Nat.le_refl _) _).alloc (by simp) _) hhi) (HJ.out.below (((Below.refl _ _).alloc (Nat.le_refl _) _).alloc (by simp) _) hhi')).mono ?_
      rintro e w1 ⟨he, hb⟩
      rw [D.out] at he
      subst he
      have B : Below w.heap.size w w1 := (((Below.refl _ _).alloc (Nat.le_refl _) _).alloc (by simp) _).trans (hb.mono (by simp; omega))
      clear hb
      go_wp2
      go_ret
      exact ⟨rfl, B⟩
  · have H : (decide (r = r') && decide (xs = ys)) = false := by simp [hr]
    rw [H]
    have d1 : (r == r') = false := by simpa using hr
    have d2 : (r != r') = true := by simpa using hr
    clear H hr
    go_enter Tryz.func61, Tryz.ntmps61
    go_wp2
    go_ret
    exact ⟨rfl, ((Below.refl _ _).alloc (Nat.le_refl _) _).alloc (by simp) _⟩

/-- Is (r, xs) a fact of the schema s? -/
def factB (s : List Int) (r : Int) (xs : List Int) : Bool := schB s && inB r 0 ((s.length : Int) - 1) && decide ((xs.length : Int) = s.getD r.toNat 0) && allB 0 9 xs

theorem left_same {P : Program} {f : FuncId} {args : Array Value} {w : World} {v : Value} (h : Calls P f args w fun e w' => e = .returned v ∧ w = w') : Calls P f args w fun e w' => e = .returned v ∧ w' = w :=
  h.mono fun _ _ ⟨a, b⟩ => ⟨a, b.symm⟩

set_option maxHeartbeats 1000000 in
set_option maxRecDepth 100000 in
theorem spec_IsFact (lo hi lo' hi' : Nat) (S : Option Addr) (cs : Nat) (s : List Int) (r : Int) (xs : List Int) (A : Option Addr) (c : Nat) (hls : s.length ≤ 140737488355328) (hl : xs.length ≤ 140737488355328) (w : World) (hhi : hi ≤ w.heap.size) (hhi' : hi' ≤ w.heap.size)
    (h : Ints w lo hi S s) (h' : Ints w lo' hi' A xs) :
    Calls Tryz.prog 134 #[.slice S s.length cs, .agg #[.int .i64 r, .slice A xs.length c]] w fun e w' => e = .returned (.bool (factB s r xs)) ∧ Below w.heap.size w w' := by
  have hs' : (s.length : Int) ≤ 140737488355328 := by omega
  have hx' : (xs.length : Int) ≤ 140737488355328 := by omega
  have HI := Lib.hid fun o => h.below (((Below.refl _ _).alloc (Nat.le_refl w.heap.size) o)) hhi
  have HJ := Lib.hid h'
  clear h h'
  have b0 : ∀ o, Below w.heap.size w (w.alloc o) := fun o => (Below.refl _ _).alloc (Nat.le_refl w.heap.size) o
  have B0 := Lib.hid b0
  clear b0
  by_cases c1 : schB s = true
  · have C1 := Lib.hid c1
    clear c1
    by_cases c2 : inB r 0 ((s.length : Int) - 1) = true
    · have C2 := Lib.hid c2
      have hr : 0 ≤ r ∧ r ≤ (s.length : Int) - 1 := by simpa [inB] using c2
      clear c2
      obtain ⟨k, rfl⟩ := Int.eq_ofNat_of_zero_le hr.1
      have hk : k < s.length := by omega
      have hk0 : (0 : Int) ≤ (k : Int) := by omega
      have hk1 : (k : Int) < (s.length : Int) := by omega
      obtain ⟨b, off, rfl, _, hbhi, hcell⟩ := (HI.out (.cells #[.int .i64 k, .slice A xs.length c] 77)).at_ hk
      generalize hy : s.getD k 0 = y at hcell
      have HY := Lib.hid hy
      clear hy
      have X1 := Lib.hid fun W (h : Ints W lo hi (some ⟨b, off, none⟩) s) => C1.out ▸ left_same (spec_IsSchema lo hi (some ⟨b, off, none⟩) cs s hls W h)
      have X2 := Lib.hid fun W => C2.out ▸ left_same (l1In_any (k : Int) 0 ((s.length : Int) - 1) W)
      by_cases c3 : (xs.length : Int) = y
      · have d3 : ((xs.length : Int) == y) = true := by simpa using c3
        have d3' : ((xs.length : Int) != y) = false := by simpa using c3
        have C3 := Lib.hid c3
        clear c3
        go_enter Tryz.func134, Tryz.ntmps134
        go_wp2
        go_quiet ((first | (go_at_call 77; exact Calls.quiet_of_same (X1.out _ (HI.out _))) | (go_at_call 78; exact Calls.quiet_of_same (X2.out _))))
        go_wp2
        have HB := Lib.hid (below_drewN (B0.out (.cells #[.int .i64 (k : Int), .slice A xs.length c] 77)) nq)
        go_loop [5] (fun i => ∃ j : Nat, j ≤ xs.length ∧ i = .int .i64 j ∧ allB 0 9 (xs.take j) = true) (fun i => xs.length - (intOf i).toNat)
        case atStart => exact ⟨0, by omega, rfl, rfl⟩
        case round =>
          obtain ⟨j, hj, rfl, ha⟩ := hrel
          have HA := Lib.hid ha
          clear ha
          by_cases hlt : j < xs.length
          · obtain ⟨b2, off2, rfl, _, _, hc⟩ := (HJ.out.below HB.out hhi').at_ hlt
            generalize hx : xs.getD j 0 = x at hc
            have HX := Lib.hid hx
            clear hx
            by_cases hin : inB x 0 9 = true
            · have HN := Lib.hid hin
              clear hin
              go_wp2_with fail
              refine (l1In_any x 0 9 _).mono ?_
              rintro e w' ⟨rfl, rfl⟩
              rw [HN.out]
              go_wp2
              go_round
              case rel => exact ⟨j + 1, by omega, by go_num, by rw [allB_take _ _ _ _ hlt, HA.out, HX.out, HN.out]; rfl⟩
              case measure => simp [intOf]; omega
            · have HN := Lib.hid (show inB x 0 9 = false by simpa using hin)
              clear hin
              go_wp2_with fail
              refine (l1In_any x 0 9 _).mono ?_
              rintro e w' ⟨rfl, rfl⟩
              rw [HN.out]
              go_wp2
              go_ret
              exact ⟨ret_bool (by unfold factB; rw [allB_not _ _ _ j hlt (by rw [HX.out]; exact HN.out)]; simp), HB.out⟩
          · obtain rfl : j = xs.length := by omega
            go_wp2
            go_ret
            exact ⟨ret_bool (by
              unfold factB
              have := HA.out
              rw [take_all] at this
              rw [C1.out, C2.out, this, Int.toNat_natCast, HY.out, decide_eq_true C3.out]; rfl), HB.out⟩
      · have d3 : ((xs.length : Int) == y) = false := by simpa using c3
        have d3' : ((xs.length : Int) != y) = true := by simpa using c3
        have H : factB s (k : Int) xs = false := by
          unfold factB
          rw [Int.toNat_natCast, HY.out, decide_eq_false c3]
          simp
        rw [H]
        clear c3 H
        go_enter Tryz.func134, Tryz.ntmps134
        go_wp2
        go_quiet ((first | (go_at_call 77; exact Calls.quiet_of_same (X1.out _ (HI.out _))) | (go_at_call 78; exact Calls.quiet_of_same (X2.out _))))
        go_wp2
        go_ret
        exact ⟨rfl, below_drewN (B0.out _) _⟩
    · have c2' : inB r 0 ((s.length : Int) - 1) = false := by simpa using c2
      have H : factB s r xs = false := by simp [factB, c2']
      rw [H]
      have C2 := Lib.hid c2'
      clear c2 c2' H
      have X1 := Lib.hid fun W (h : Ints W lo hi S s) => C1.out ▸ left_same (spec_IsSchema lo hi S cs s hls W h)
      have X2 := Lib.hid fun W => C2.out ▸ left_same (l1In_any r 0 ((s.length : Int) - 1) W)
      go_enter Tryz.func134, Tryz.ntmps134
      go_wp2
      go_quiet ((first | (go_at_call 77; exact Calls.quiet_of_same (X1.out _ (HI.out _))) | (go_at_call 78; exact Calls.quiet_of_same (X2.out _))))
      go_wp2
      go_ret
      exact ⟨rfl, below_drewN (B0.out _) _⟩
  · have c1' : schB s = false := by simpa using c1
    have H : factB s r xs = false := by simp [factB, c1']
    rw [H]
    have C1 := Lib.hid c1'
    clear c1 c1' H
    have X1 := Lib.hid fun W (h : Ints W lo hi S s) => C1.out ▸ left_same (spec_IsSchema lo hi S cs s hls W h)
    go_enter Tryz.func134, Tryz.ntmps134
    go_wp2
    go_quiet ((first | (go_at_call 77; exact Calls.quiet_of_same (X1.out _ (HI.out _)))))
    go_wp2
    go_ret
    exact ⟨rfl, below_drewN (B0.out _) _⟩

set_option maxHeartbeats 1000000 in
set_option maxRecDepth 100000 in
theorem impl_IsFact (lo hi lo' hi' : Nat) (S : Option Addr) (cs : Nat) (s : List Int) (r : Int) (xs : List Int) (A : Option Addr) (c : Nat) (hls : s.length ≤ 140737488355328) (hl : xs.length ≤ 140737488355328) (w : World) (hhi : hi ≤ w.heap.size) (hhi' : hi' ≤ w.heap.size)
    (h : Ints w lo hi S s) (h' : Ints w lo' hi' A xs) :
    Calls Tryz.prog 103 #[.slice S s.length cs, .agg #[.int .i64 r, .slice A xs.length c]] w fun e w' => e = .returned (.bool (factB s r xs)) ∧ Below w.heap.size w w' := by
  have hs' : (s.length : Int) ≤ 140737488355328 := by omega
  have hx' : (xs.length : Int) ≤ 140737488355328 := by omega
  have HI := Lib.hid fun o => h.below (((Below.refl _ _).alloc (Nat.le_refl w.heap.size) o)) hhi
  have HJ := Lib.hid fun o => h'.below (((Below.refl _ _).alloc (Nat.le_refl w.heap.size) o)) hhi'
  clear h h'
  have b0 : ∀ o, Below w.heap.size w (w.alloc o) := fun o => (Below.refl _ _).alloc (Nat.le_refl w.heap.size) o
  have B0 := Lib.hid b0
  clear b0
  by_cases c1 : schB s = true
  · have C1 := Lib.hid c1
    clear c1
    by_cases c2 : inB r 0 ((s.length : Int) - 1) = true
    · have C2 := Lib.hid c2
      have hr : 0 ≤ r ∧ r ≤ (s.length : Int) - 1 := by simpa [inB] using c2
      clear c2
      obtain ⟨k, rfl⟩ := Int.eq_ofNat_of_zero_le hr.1
      have hk : k < s.length := by omega
      have hk0 : (0 : Int) ≤ (k : Int) := by omega
      have hk1 : (k : Int) < (s.length : Int) := by omega
      obtain ⟨b, off, rfl, _, hbhi, hcell⟩ := (HI.out (.cells #[.int .i64 k, .slice A xs.length c] 77)).at_ hk
      generalize hy : s.getD k 0 = y at hcell
      have HY := Lib.hid hy
      clear hy
      have X1 := Lib.hid fun W (h : Ints W lo hi (some ⟨b, off, none⟩) s) => C1.out ▸ left_same (impl_IsSchema lo hi (some ⟨b, off, none⟩) cs s hls W h)
      have X2 := Lib.hid fun W => C2.out ▸ left_same (isBetween_any (k : Int) 0 ((s.length : Int) - 1) W)
      by_cases c3 : (xs.length : Int) = y
      · have d3 : ((xs.length : Int) == y) = true := by simpa using c3
        have C3 := Lib.hid c3
        clear c3
        have X3 := Lib.hid fun W (h : Ints W lo' hi' A xs) => left_same (areValues_any lo' hi' A c xs hl W h)
        have H : factB s (k : Int) xs = allB 0 9 xs := by
          unfold factB
          rw [C1.out, C2.out, Int.toNat_natCast, HY.out, decide_eq_true C3.out]
          simp
        rw [H]
        clear H
        go_enter Tryz.func103, Tryz.ntmps103
        go_wp2
        go_quiet ((first | (go_at_call 102; exact Calls.quiet_of_same (X1.out _ (HI.out _))) | (go_at_call 86; exact Calls.quiet_of_same (X2.out _)) | (go_at_call 138; exact Calls.quiet_of_same (X3.out _ (HJ.out _)))))
        go_wp2
        go_ret
        exact ⟨rfl, below_drewN (B0.out _) _⟩
      · have d3 : ((xs.length : Int) == y) = false := by simpa using c3
        have H : factB s (k : Int) xs = false := by
          unfold factB
          rw [Int.toNat_natCast, HY.out, decide_eq_false c3]
          simp
        rw [H]
        clear c3 H
        go_enter Tryz.func103, Tryz.ntmps103
        go_wp2
        go_quiet ((first | (go_at_call 102; exact Calls.quiet_of_same (X1.out _ (HI.out _))) | (go_at_call 86; exact Calls.quiet_of_same (X2.out _))))
        go_wp2
        go_ret
        exact ⟨rfl, below_drewN (B0.out _) _⟩
    · have c2' : inB r 0 ((s.length : Int) - 1) = false := by simpa using c2
      have H : factB s r xs = false := by simp [factB, c2']
      rw [H]
      have C2 := Lib.hid c2'
      clear c2 c2' H
      have X1 := Lib.hid fun W (h : Ints W lo hi S s) => C1.out ▸ left_same (impl_IsSchema lo hi S cs s hls W h)
      have X2 := Lib.hid fun W => C2.out ▸ left_same (isBetween_any r 0 ((s.length : Int) - 1) W)
      go_enter Tryz.func103, Tryz.ntmps103
      go_wp2
      go_quiet ((first | (go_at_call 102; exact Calls.quiet_of_same (X1.out _ (HI.out _))) | (go_at_call 86; exact Calls.quiet_of_same (X2.out _))))
      go_wp2
      go_ret
      exact ⟨rfl, below_drewN (B0.out _) _⟩
  · have c1' : schB s = false := by simpa using c1
    have H : factB s r xs = false := by simp [factB, c1']
    rw [H]
    have C1 := Lib.hid c1'
    clear c1 c1' H
    have X1 := Lib.hid fun W (h : Ints W lo hi S s) => C1.out ▸ left_same (impl_IsSchema lo hi S cs s hls W h)
    go_enter Tryz.func103, Tryz.ntmps103
    go_wp2
    go_quiet ((first | (go_at_call 102; exact Calls.quiet_of_same (X1.out _ (HI.out _)))))
    go_wp2
    go_ret
    exact ⟨rfl, below_drewN (B0.out _) _⟩
end Go.Proofs.YtimlpdcambmcjaaGreat

namespace Go.Proofs.YtimlpdcambmcjaaGreat
open Go.ChangeShapes Go.WideShapes Go.ChangeAt Go.RowKit
set_option linter.unusedVariables false
set_option linter.unusedSimpArgs false

/-- At A lie the numbers xs. -/
def RI (w : World) (A : Option Addr) (xs : List Int) : Prop := Ints w 0 w.heap.size A xs
/-- At A lie the facts fs. -/
def RF (w : World) (A : Option Addr) (fs : List (Int × List Int)) : Prop := Facts w 0 w.heap.size A fs
/-- Block g is just the cells cs. -/
def Box (w : World) (g : Nat) (cs : Array Value) (t : TypeId) : Prop := w.heap[g]? = some (.cells cs t (0, 0))

theorem al_size (w : World) (o : Obj) : (w.alloc o).heap.size = w.heap.size + 1 := by simp
theorem und {w w' : World} (b : Below w.drew.heap.size w.drew w') : Below w.heap.size w w' := ⟨b.os, b.tape, b.output, b.size, b.block⟩
theorem undN {w w' : World} {n : Nat} (b : Below (w.drewN n).heap.size (w.drewN n) w') : Below w.heap.size w w' := ⟨b.os, b.tape, b.output, b.size, b.block⟩
theorem step {a w w' : World} (h : Below a.heap.size a w) (b : Below w.heap.size w w') : Below a.heap.size a w' := h.trans (b.mono h.size)
theorem below_alloc (w : World) (o : Obj) : Below w.heap.size w (w.alloc o) := (Below.refl _ _).alloc (Nat.le_refl _) _
theorem below_drew (w : World) : Below w.heap.size w w.drew := (Below.refl _ _).drew

theorem RI.step {w w' : World} {A : Option Addr} {xs : List Int} (h : RI w A xs) (b : Below w.heap.size w w') : RI w' A xs := (Ints.below h b (Nat.le_refl _)).mono (Nat.le_refl _) b.size
theorem RF.step {w w' : World} {A : Option Addr} {fs : List (Int × List Int)} (h : RF w A fs) (b : Below w.heap.size w w') : RF w' A fs := (Facts.below h b (Nat.le_refl _)).mono (Nat.le_refl _) b.size
theorem Box.lt {w : World} {g : Nat} {t : TypeId} {cs : Array Value} (h : Box w g cs t) : g < w.heap.size := by
  rcases Nat.lt_or_ge g w.heap.size with hlt | hge
  · exact hlt
  · unfold Box at h; rw [Array.getElem?_eq_none hge] at h; cases h
theorem Box.step {w w' : World} {g : Nat} {t : TypeId} {cs : Array Value} (h : Box w g cs t) (b : Below w.heap.size w w') : Box w' g cs t := (b.block g h.lt).trans h
theorem Box.new (w : World) (cs : Array Value) (t : TypeId) : Box (w.alloc (.cells cs t)) w.heap.size cs t := heap_alloc_new w _
theorem Box.cell {w : World} {g : Nat} {t : TypeId} {cs : Array Value} (h : Box w g cs t) (i : Nat) : w.cell? ⟨g, i, none⟩ = cs[i]? := cell_of_row w g i cs t (0, 0) h
theorem Box.frozen {w : World} {g : Nat} {t : TypeId} {cs : Array Value} (h : Box w g cs t) (i : Nat) : w.frozen? ⟨g, i, none⟩ = false := by
  unfold Box at h
  simp [World.frozen?, h]
theorem Row.ri {w : World} {g : Nat} {xs : List Int} (h : Row w g xs) : RI w (some ⟨g, 0, none⟩) xs := h.ints.mono (Nat.zero_le _) (by have := World.rowIs.lt h; omega)
theorem RI.at_ {w : World} {A : Option Addr} {xs : List Int} (h : RI w A xs) {k : Nat} (hk : k < xs.length) : ∃ b off, A = some ⟨b, off, none⟩ ∧ b < w.heap.size ∧ w.cell? ⟨b, off + k, none⟩ = some (.int .i64 (xs.getD k 0)) := by
  obtain ⟨b, off, h1, _, h3, h4⟩ := Ints.at_ h hk
  exact ⟨b, off, h1, h3, h4⟩
theorem RF.at_ {w : World} {A : Option Addr} {fs : List (Int × List Int)} (h : RF w A fs) {k : Nat} (hk : k < fs.length) {r : Int} {xs : List Int} (hf : fs.getD k (0, []) = (r, xs)) :
    ∃ b off B c, A = some ⟨b, off, none⟩ ∧ b < w.heap.size ∧ w.cell? ⟨b, off + k * 2, none⟩ = some (.int .i64 r) ∧
    w.cell? ⟨b, off + k * 2 + 1, none⟩ = some (.slice B xs.length c) ∧ xs.length ≤ c ∧ c ≤ maxLen ∧ RI w B xs := by
  obtain ⟨b, off, B, c, h1, _, h3, h4, h5, h6, h7, h8⟩ := Facts.at_ h hk hf
  exact ⟨b, off, B, c, h1, h3, h4, h5, h6, h7, h8⟩

theorem Box.of_new {w w1 : World} {cs : Array Value} {t : TypeId} (c : Below (w.alloc (.cells cs t)).heap.size (w.alloc (.cells cs t)) w1) : Box w1 w.heap.size cs t := (Box.new w cs t).step c

theorem Box.of_new2 {w w1 : World} {cs cs' : Array Value} {t t' : TypeId} (c : Below ((w.alloc (.cells cs t)).alloc (.cells cs' t')).heap.size ((w.alloc (.cells cs t)).alloc (.cells cs' t')) w1) : Box w1 w.heap.size cs t ∧ Box w1 (w.heap.size + 1) cs' t' :=
  ⟨((Box.new w cs t).step (below_alloc _ _)).step c, by have := (Box.new (w.alloc (.cells cs t)) cs' t').step c; simpa using this⟩

theorem Box.set_other {w : World} {g : Nat} {cs : Array Value} {t : TypeId} (h : Box w g cs t) {p : Addr} {u : Value} (hp : g ≠ p.block) : Box (w.setCell p u) g cs t := (Below.heap_setCell _ _ _ _ hp).trans h
theorem Box.set {w : World} {g : Nat} {cs : Array Value} {t : TypeId} (h : Box w g cs t) (i : Nat) (v : Value) : Box (w.setCell ⟨g, i, none⟩ v) g (cs.setIfInBounds i v) t := by
  have hlt := h.lt
  unfold Box at h ⊢
  have h' : w.heap[g] = .cells cs t (0, 0) := by simpa [Array.getElem?_eq_getElem hlt] using h
  show (w.heap.modify g _)[g]? = _
  rw [Array.getElem?_eq_getElem (by simpa using hlt), Array.getElem_modify_self, h']
  rfl

/-! The contracts in these words. -/
theorem toIntS_r (A : Option Addr) (c : Nat) (xs : List Int) (hl : xs.length ≤ 1048576) (w : World) (h : RI w A xs) :
    Calls Tryz.prog 9 #[.slice A xs.length c] w fun e w' => e = .returned (.slice (some ⟨w.heap.size, 0, none⟩) xs.length xs.length) ∧ Row w' w.heap.size xs ∧ Below w.heap.size w w' ∧ w'.heap.size = w.heap.size + 1 :=
  toIntS_any 0 w.heap.size A c xs hl w (Nat.le_refl _) h
theorem eqIntS_r (A A' : Option Addr) (c c' : Nat) (xs : List Int) (hl : xs.length ≤ 1048576) (w : World) (h : RI w A xs) (h' : RI w A' xs) :
    Calls Tryz.prog 13 #[.slice A xs.length c, .slice A' xs.length c'] w fun e w' => e = .returned (.bool true) ∧ Below w.heap.size w w' := by
  have := eqIntS_any _ _ _ _ A A' c c' xs xs (by omega) (by omega) w h h'
  rwa [decide_eq_true rfl] at this
theorem toFact_r (r : Int) (xs : List Int) (A : Option Addr) (c : Nat) (hl : xs.length ≤ 1048576) (w : World) (h : RI w A xs) :
    Calls Tryz.prog 55 #[.agg #[.int .i64 r, .slice A xs.length c]] w fun e w' => e = .returned (.agg #[.int .i64 r, .slice (some ⟨w.heap.size + 3, 0, none⟩) xs.length xs.length]) ∧
      Row w' (w.heap.size + 3) xs ∧ Below w.heap.size w w' ∧ w'.heap.size = w.heap.size + 4 :=
  toFact_any 0 w.heap.size r xs A c hl w (Nat.le_refl _) h
theorem eqFact_r (r : Int) (xs : List Int) (A A' : Option Addr) (c c' : Nat) (hl : xs.length ≤ 1048576) (w : World) (h : RI w A xs) (h' : RI w A' xs) :
    Calls Tryz.prog 61 #[.agg #[.int .i64 r, .slice A xs.length c], .agg #[.int .i64 r, .slice A' xs.length c']] w fun e w' => e = .returned (.bool true) ∧ Below w.heap.size w w' := by
  have := eqFact_any _ _ _ _ r r xs xs A A' c c' (by omega) (by omega) w (Nat.le_refl _) (Nat.le_refl _) h h'
  rwa [decide_eq_true rfl, decide_eq_true rfl] at this
theorem spec_IsFact_r (S : Option Addr) (cs : Nat) (s : List Int) (r : Int) (xs : List Int) (A : Option Addr) (c : Nat) (hls : s.length ≤ 140737488355328) (hl : xs.length ≤ 140737488355328) (w : World) (h : RI w S s) (h' : RI w A xs) :
    Calls Tryz.prog 134 #[.slice S s.length cs, .agg #[.int .i64 r, .slice A xs.length c]] w fun e w' => e = .returned (.bool (factB s r xs)) ∧ Below w.heap.size w w' :=
  spec_IsFact _ _ _ _ S cs s r xs A c hls hl w (Nat.le_refl _) (Nat.le_refl _) h h'
theorem impl_IsFact_r (S : Option Addr) (cs : Nat) (s : List Int) (r : Int) (xs : List Int) (A : Option Addr) (c : Nat) (hls : s.length ≤ 140737488355328) (hl : xs.length ≤ 140737488355328) (w : World) (h : RI w S s) (h' : RI w A xs) :
    Calls Tryz.prog 103 #[.slice S s.length cs, .agg #[.int .i64 r, .slice A xs.length c]] w fun e w' => e = .returned (.bool (factB s r xs)) ∧ Below w.heap.size w w' :=
  impl_IsFact _ _ _ _ S cs s r xs A c hls hl w (Nat.le_refl _) (Nat.le_refl _) h h'
end Go.Proofs.YtimlpdcambmcjaaGreat

namespace Go.Proofs.YtimlpdcambmcjaaGreat
open Go.ChangeShapes Go.WideShapes Go.ChangeAt Go.RowKit
set_option linter.unusedVariables false
set_option linter.unusedSimpArgs false

def cmpI (a b : Int) : Int := if a < b then -1 else if b < a then 1 else 0
def cmpL : List Int → List Int → Int
  | [], [] => 0
  | [], _ :: _ => -1
  | _ :: _, [] => 1
  | x :: xs, y :: ys => if x < y then -1 else if y < x then 1 else cmpL xs ys
def cmpF (r : Int) (xs : List Int) (r' : Int) (ys : List Int) : Int := if r < r' then -1 else if r' < r then 1 else cmpL xs ys
theorem cmpL_step (xs ys : List Int) (k : Nat) (h1 : k < xs.length) (h2 : k < ys.length) :
    cmpL (xs.drop k) (ys.drop k) = if xs.getD k 0 < ys.getD k 0 then -1 else if ys.getD k 0 < xs.getD k 0 then 1 else cmpL (xs.drop (k + 1)) (ys.drop (k + 1)) := by
  rw [List.drop_eq_getElem_cons h1, List.drop_eq_getElem_cons h2]
  simp [cmpL, List.getD_eq_getElem?_getD, h1, h2]
theorem cmpL_short (xs ys : List Int) (h2 : xs.length < ys.length) : cmpL (xs.drop xs.length) (ys.drop xs.length) = -1 := by
  rw [List.drop_length, List.drop_eq_getElem_cons h2]
  rfl
theorem cmpL_long (xs ys : List Int) (h2 : ys.length < xs.length) : cmpL (xs.drop ys.length) (ys.drop ys.length) = 1 := by
  rw [List.drop_length, List.drop_eq_getElem_cons h2]
  rfl
theorem cmpL_same (xs ys : List Int) (k : Nat) (h1 : xs.length = k) (h2 : ys.length = k) : cmpL (xs.drop k) (ys.drop k) = 0 := by
  rw [← h1, List.drop_length, h1, ← h2, List.drop_length]
  rfl
theorem cmpL_rng : ∀ xs ys : List Int, -1 ≤ cmpL xs ys ∧ cmpL xs ys ≤ 1
  | [], [] => by simp [cmpL]
  | [], _ :: _ => by simp [cmpL]
  | _ :: _, [] => by simp [cmpL]
  | x :: xs, y :: ys => by
    have := cmpL_rng xs ys
    simp only [cmpL]
    split
    · omega
    · split <;> omega
theorem cmpL_zero : ∀ xs ys : List Int, cmpL xs ys = 0 ↔ xs = ys
  | [], [] => by simp [cmpL]
  | [], _ :: _ => by simp [cmpL]
  | _ :: _, [] => by simp [cmpL]
  | x :: xs, y :: ys => by
    have := cmpL_zero xs ys
    simp only [cmpL, List.cons.injEq]
    split
    · constructor
      · intro h; omega
      · rintro ⟨rfl, _⟩; omega
    · split
      · constructor
        · intro h; omega
        · rintro ⟨rfl, _⟩; omega
      · rw [this]
        constructor
        · intro h; exact ⟨by omega, h⟩
        · exact fun h => h.2
theorem cmpF_rng (r : Int) (xs : List Int) (r' : Int) (ys : List Int) : -1 ≤ cmpF r xs r' ys ∧ cmpF r xs r' ys ≤ 1 := by
  have := cmpL_rng xs ys
  unfold cmpF
  split
  · omega
  · split <;> omega
theorem cmpF_zero (r : Int) (xs : List Int) (r' : Int) (ys : List Int) : cmpF r xs r' ys = 0 ↔ r = r' ∧ xs = ys := by
  have := cmpL_zero xs ys
  unfold cmpF
  split
  · constructor
    · intro h; omega
    · rintro ⟨rfl, _⟩; omega
  · split
    · constructor
      · intro h; omega
      · rintro ⟨rfl, _⟩; omega
    · rw [this]
      constructor
      · intro h; exact ⟨by omega, h⟩
      · exact fun h => h.2

theorem isNaN_any (x : Int) (w : World) : Calls Tryz.prog 159 #[.int .i64 x] w fun e w' => e = .returned (.bool false) ∧ w = w' := by
  go_enter Tryz.func159, Tryz.ntmps159
  go_wp2
  go_ret
  exact ⟨by simp, rfl⟩

theorem cmpCompare_any (x y : Int) (w : World) : Calls Tryz.prog 140 #[.int .i64 x, .int .i64 y] w fun e w' => e = .returned (.int .i64 (cmpI x y)) ∧ w = w' := by
  rcases (by omega : x < y ∨ (¬ x < y ∧ y < x) ∨ (¬ x < y ∧ ¬ y < x)) with h | ⟨h, h2⟩ | ⟨h, h2⟩
  · rw [show cmpI x y = -1 by simp [cmpI, h]]
    go_enter Tryz.func140, Tryz.ntmps140
    go_wp2_with fail
    refine (isNaN_any x _).mono ?_
    rintro e w1 ⟨rfl, rfl⟩
    go_wp2_with fail
    refine (isNaN_any y _).mono ?_
    rintro e w1 ⟨rfl, rfl⟩
    go_wp2
    go_ret
    exact ⟨rfl, rfl⟩
  · rw [show cmpI x y = 1 by simp [cmpI, h, h2]]
    go_enter Tryz.func140, Tryz.ntmps140
    go_wp2_with fail
    refine (isNaN_any x _).mono ?_
    rintro e w1 ⟨rfl, rfl⟩
    go_wp2_with fail
    refine (isNaN_any y _).mono ?_
    rintro e w1 ⟨rfl, rfl⟩
    go_wp2
    go_ret
    exact ⟨rfl, rfl⟩
  · rw [show cmpI x y = 0 by simp [cmpI, h, h2]]
    go_enter Tryz.func140, Tryz.ntmps140
    go_wp2_with fail
    refine (isNaN_any x _).mono ?_
    rintro e w1 ⟨rfl, rfl⟩
    go_wp2_with fail
    refine (isNaN_any y _).mono ?_
    rintro e w1 ⟨rfl, rfl⟩
    go_wp2
    go_ret
    exact ⟨rfl, rfl⟩

set_option maxHeartbeats 400000 in
theorem slicesCompare_any (A A' : Option Addr) (c c' : Nat) (xs ys : List Int) (hl : xs.length ≤ 140737488355328) (hl2 : ys.length ≤ 140737488355328) (w : World) (h : RI w A xs) (h' : RI w A' ys) :
    Calls Tryz.prog 106 #[.slice A xs.length c, .slice A' ys.length c'] w fun e w' => e = .returned (.int .i64 (cmpL xs ys)) ∧ w = w' := by
  have HI := Lib.hid h
  have HJ := Lib.hid h'
  clear h h'
  have hl' : (xs.length : Int) ≤ 140737488355328 := by omega
  have hl2' : (ys.length : Int) ≤ 140737488355328 := by omega
  have HC := Lib.hid cmpL_step
  go_enter Tryz.func106, Tryz.ntmps106
  go_wp2
  go_loop [5, 6, 7, 8, 11] (fun _ _ _ _ i => ∃ k : Nat, k ≤ xs.length ∧ k ≤ ys.length ∧ i = .int .i64 k ∧ cmpL (xs.drop k) (ys.drop k) = cmpL xs ys) (fun _ _ _ _ i => xs.length - (intOf i).toNat)
  case atStart => exact ⟨0, by omega, by omega, rfl, rfl⟩
  case round =>
    obtain ⟨k, hk, hk2, rfl, ha⟩ := hrel
    have HA := Lib.hid ha
    clear ha
    by_cases hlt : k < xs.length
    · obtain ⟨b, off, rfl, _, hc⟩ := HI.out.at_ hlt
      generalize hx : xs.getD k 0 = x at hc
      have HX := Lib.hid hx
      clear hx
      by_cases hlt2 : k < ys.length
      · obtain ⟨b', off', rfl, _, hc'⟩ := HJ.out.at_ hlt2
        generalize hy : ys.getD k 0 = y at hc'
        have HY := Lib.hid hy
        clear hy
        have S := Lib.hid (cmpL_step xs ys k hlt hlt2)
        go_wp2_with fail
        refine (cmpCompare_any x y _).mono ?_
        rintro e w1 ⟨rfl, rfl⟩
        by_cases h1 : x < y
        · rw [show cmpI x y = -1 by simp [cmpI, h1]]
          go_wp2
          go_ret
          exact ⟨ret_int (by rw [← HA.out, S.out, HX.out, HY.out, if_pos h1]), rfl⟩
        · by_cases h2 : y < x
          · rw [show cmpI x y = 1 by simp [cmpI, h1, h2]]
            go_wp2
            go_ret
            exact ⟨ret_int (by rw [← HA.out, S.out, HX.out, HY.out, if_neg (by omega), if_pos h2]), rfl⟩
          · rw [show cmpI x y = 0 by simp [cmpI, h1, h2]]
            go_wp2
            go_round
            case rel => exact ⟨k + 1, by omega, by omega, by go_num, by rw [← HA.out, S.out, HX.out, HY.out, if_neg (by omega), if_neg (by omega)]⟩
            case measure => simp [intOf]; omega
      · obtain rfl : k = ys.length := by omega
        go_wp2
        go_ret
        exact ⟨ret_int (by rw [← HA.out, cmpL_long _ _ hlt]), rfl⟩
    · obtain rfl : k = xs.length := by omega
      by_cases hlt2 : xs.length < ys.length
      · go_wp2
        go_ret
        exact ⟨ret_int (by rw [← HA.out, cmpL_short _ _ hlt2]), rfl⟩
      · go_wp2
        go_ret
        exact ⟨ret_int (by rw [← HA.out, cmpL_same _ _ _ rfl (by omega)]), rfl⟩
end Go.Proofs.YtimlpdcambmcjaaGreat

namespace Go.Proofs.YtimlpdcambmcjaaGreat
open Go.ChangeShapes Go.WideShapes Go.ChangeAt Go.RowKit
set_option linter.unusedVariables false
set_option linter.unusedSimpArgs false

theorem RI_new2 (w : World) (x y : Int) (t : TypeId) : RI (w.alloc (.cells #[.int .i64 x, .int .i64 y] t)) (some ⟨w.heap.size, 0, none⟩) [x, y] := fun _ =>
  ⟨w.heap.size, 0, rfl, Nat.zero_le _, by simp, fun k hk => by
    rw [cell_new]
    simp at hk
    rcases (by omega : k = 0 ∨ k = 1) with rfl | rfl <;> rfl⟩

theorem cmpOr_two (A : Option Addr) (c : Nat) (x y : Int) (w : World) (h : RI w A [x, y]) :
    Calls Tryz.prog 139 #[.slice A 2 c] w fun e w' => e = .returned (.int .i64 (if x = 0 then y else x)) ∧ w = w' := by
  obtain ⟨b, off, rfl, _, hc⟩ := h.at_ (k := 0) (by simp)
  obtain ⟨b', off', h2, _, hc'⟩ := h.at_ (k := 1) (by simp)
  injection h2 with h2
  injection h2 with h2 h3
  subst h2 h3
  simp at hc hc'
  clear h
  by_cases h1 : x = 0
  · subst h1
    by_cases h2 : y = 0
    · subst h2
      go_enter Tryz.func139, Tryz.ntmps139
      go_wp2
      refine wp_loop_rounds 3 ?_
      rw [rounds_succ]
      go_wp2
      rw [rounds_succ]
      go_wp2
      rw [rounds_succ]
      go_wp2
      go_ret
      exact ⟨rfl, rfl⟩
    · have d : (y == 0) = false := by simpa using h2
      have d' : (y != 0) = true := by simpa using h2
      have H := Lib.hid h2
      clear h2
      go_enter Tryz.func139, Tryz.ntmps139
      go_wp2
      refine wp_loop_rounds 2 ?_
      rw [rounds_succ]
      go_wp2
      rw [rounds_succ]
      go_wp2
      go_ret
      exact ⟨rfl, rfl⟩
  · have d : (x == 0) = false := by simpa using h1
    have d' : (x != 0) = true := by simpa using h1
    rw [if_neg h1]
    clear h1
    go_enter Tryz.func139, Tryz.ntmps139
    go_wp2
    refine wp_loop_rounds 1 ?_
    rw [rounds_succ]
    go_wp2
    go_ret
    exact ⟨rfl, rfl⟩

set_option maxHeartbeats 1000000 in
set_option maxRecDepth 100000 in
theorem impl_CompareFacts (r r' : Int) (xs ys : List Int) (A A' : Option Addr) (c c' : Nat) (hl : xs.length ≤ 140737488355328) (hl2 : ys.length ≤ 140737488355328) (w : World) (h : RI w A xs) (h' : RI w A' ys) :
    Calls Tryz.prog 104 #[.agg #[.int .i64 r, .slice A xs.length c], .agg #[.int .i64 r', .slice A' ys.length c']] w fun e w' => e = .returned (.int .i64 (cmpF r xs r' ys)) ∧ Below w.heap.size w w' := by
  have hl' : (xs.length : Int) ≤ 140737488355328 := by omega
  have hl2' : (ys.length : Int) ≤ 140737488355328 := by omega
  have HE := Lib.hid (show (if cmpI r r' = 0 then cmpL xs ys else cmpI r r') = cmpF r xs r' ys by
    unfold cmpI cmpF
    by_cases h1 : r < r'
    · simp [h1]
    · by_cases h2 : r' < r
      · simp [h1, h2]
      · simp [h1, h2])
  have HI := Lib.hid h
  have HJ := Lib.hid h'
  clear h h'
  go_enter Tryz.func104, Tryz.ntmps104
  go_wp2
  have B0 := step (below_alloc w (.cells #[.int .i64 r, .slice A xs.length c] 77)) (below_alloc _ (.cells #[.int .i64 r', .slice A' ys.length c'] 77))
  generalize hu : (w.alloc (.cells #[.int .i64 r, .slice A xs.length c] 77)).alloc (.cells #[.int .i64 r', .slice A' ys.length c'] 77) = u at B0 ⊢
  have X0 : Box u w.heap.size #[.int .i64 r, .slice A xs.length c] 77 := by rw [← hu]; exact (Box.new _ _ _).step (below_alloc _ _)
  have X1 : Box u (w.heap.size + 1) #[.int .i64 r', .slice A' ys.length c'] 77 := by rw [← hu]; simpa using Box.new (w.alloc (.cells #[.int .i64 r, .slice A xs.length c] 77)) #[.int .i64 r', .slice A' ys.length c'] 77
  have J0 := Lib.hid (HI.out.step B0)
  have J1 := Lib.hid (HJ.out.step B0)
  have g0 := X0.cell 0
  have g1 := X0.cell 1
  have g2 := X1.cell 0
  have g3 := X1.cell 1
  have z0 := X1.lt
  simp only [List.getElem?_toArray, List.getElem?_cons_zero, List.getElem?_cons_succ] at g0 g1 g2 g3
  clear hu X0 X1
  go_region_held3 (fun w' => w'.cell? ⟨w.heap.size, 0, none⟩ = some (.int .i64 r) ∧ w'.cell? ⟨w.heap.size, 1, none⟩ = some (.slice A xs.length c) ∧ w'.cell? ⟨w.heap.size + 1, 0, none⟩ = some (.int .i64 r') ∧ w'.cell? ⟨w.heap.size + 1, 1, none⟩ = some (.slice A' ys.length c'))
    (first
      | go_keep)
    (first
      | (go_at_call 140; refine (cmpCompare_any r r' _).mono ?_; rintro e u1 ⟨rfl, rfl⟩)
      | (go_at_call 106; refine (slicesCompare_any A A' c c' xs ys hl hl2 _ (by first | exact J0.out | exact J0.out.step (below_drew _)) (by first | exact J1.out | exact J1.out.step (below_drew _))).mono ?_; rintro e u2 ⟨rfl, rfl⟩)
      | (go_at_call 139; refine (cmpOr_two _ _ (cmpI r r') (cmpL xs ys) _ (by first | exact RI_new2 _ _ _ _ | exact (RI_new2 _ _ _ _).step (below_drew _))).mono ?_; rintro e u3 ⟨he, rfl⟩; rw [HE.out] at he; subst he))
  go_wp2
  go_ret
  exact ⟨rfl, by first | exact step B0 (below_alloc _ _) | exact step B0 (step (below_drew _) (below_alloc _ _)) | exact step B0 (step (below_alloc _ _) (below_drew _))⟩

theorem cmpF_lt {r r' : Int} (xs ys : List Int) (h : r < r') : cmpF r xs r' ys = -1 := by simp [cmpF, h]
theorem cmpF_gt {r r' : Int} (xs ys : List Int) (h : r' < r) : cmpF r xs r' ys = 1 := by simp [cmpF, h, show ¬ r < r' by omega]
theorem cmpF_eq (r : Int) (xs ys : List Int) : cmpF r xs r ys = cmpL xs ys := by simp [cmpF]

set_option maxHeartbeats 1000000 in
set_option maxRecDepth 100000 in
theorem spec_CompareFacts (r r' : Int) (xs ys : List Int) (A A' : Option Addr) (c c' : Nat) (hl : xs.length ≤ 140737488355328) (hl2 : ys.length ≤ 140737488355328) (w : World) (h : RI w A xs) (h' : RI w A' ys) :
    Calls Tryz.prog 135 #[.agg #[.int .i64 r, .slice A xs.length c], .agg #[.int .i64 r', .slice A' ys.length c']] w fun e w' => e = .returned (.int .i64 (cmpF r xs r' ys)) ∧ Below w.heap.size w w' := by
  have hl' : (xs.length : Int) ≤ 140737488355328 := by omega
  have hl2' : (ys.length : Int) ≤ 140737488355328 := by omega
  have HI := Lib.hid h
  have HJ := Lib.hid h'
  clear h h'
  have b0 := fun o o' => step (below_alloc w o) (below_alloc _ o')
  have B0 := Lib.hid b0
  clear b0
  by_cases h1 : r < r'
  · have d1 : (r == r') = false := by simp; omega
    have d2 : (r != r') = true := by simp; omega
    rw [cmpF_lt _ _ h1]
    go_enter Tryz.func135, Tryz.ntmps135
    go_wp2
    go_ret
    exact ⟨rfl, B0.out _ _⟩
  · by_cases h2 : r' < r
    · have d1 : (r == r') = false := by simp; omega
      have d2 : (r != r') = true := by simp; omega
      rw [cmpF_gt _ _ h2]
      go_enter Tryz.func135, Tryz.ntmps135
      go_wp2
      go_ret
      exact ⟨rfl, B0.out _ _⟩
    · obtain rfl : r = r' := by omega
      rw [cmpF_eq]
      have J0 := Lib.hid fun o o' => HI.out.step (B0.out o o')
      have J1 := Lib.hid fun o o' => HJ.out.step (B0.out o o')
      have X0 := Lib.hid (show Box ((w.alloc (.cells #[.int .i64 r, .slice A xs.length c] 77)).alloc (.cells #[.int .i64 r, .slice A' ys.length c'] 77)) w.heap.size #[.int .i64 r, .slice A xs.length c] 77 from (Box.new _ _ _).step (below_alloc _ _))
      have X1 := Lib.hid (show Box ((w.alloc (.cells #[.int .i64 r, .slice A xs.length c] 77)).alloc (.cells #[.int .i64 r, .slice A' ys.length c'] 77)) (w.heap.size + 1) #[.int .i64 r, .slice A' ys.length c'] 77 by simpa using Box.new (w.alloc (.cells #[.int .i64 r, .slice A xs.length c] 77)) #[.int .i64 r, .slice A' ys.length c'] 77)
      go_enter Tryz.func135, Tryz.ntmps135
      go_wp2
      generalize hu : (w.alloc (.cells #[.int .i64 r, .slice A xs.length c] 77)).alloc (.cells #[.int .i64 r, .slice A' ys.length c'] 77) = u at X0 X1
      have HU := Lib.hid hu
      clear hu
      have T := Lib.hid (show Below w.heap.size w u by rw [← HU.out]; exact B0.out _ _)
      have J0' := Lib.hid (show RI u A xs by rw [← HU.out]; exact J0.out _ _)
      have J1' := Lib.hid (show RI u A' ys by rw [← HU.out]; exact J1.out _ _)
      try rw [HU.out]
      go_loopw [5] (fun i wr => ∃ k : Nat, k ≤ xs.length ∧ k ≤ ys.length ∧ i = .int .i64 k ∧ cmpL (xs.drop k) (ys.drop k) = cmpL xs ys ∧ ∃ n, wr = u.drewN n) (fun i _ => xs.length - (intOf i).toNat)
      case atStart => exact ⟨0, by omega, by omega, rfl, rfl, 0, rfl⟩
      case round =>
        obtain ⟨k, hk, hk2, rfl, ha, n, rfl⟩ := hrel
        have HA := Lib.hid ha
        clear ha
        have g0 := X0.out.cell 0
        have g1 := X0.out.cell 1
        have g2 := X1.out.cell 0
        have g3 := X1.out.cell 1
        simp only [List.getElem?_toArray, List.getElem?_cons_zero, List.getElem?_cons_succ] at g0 g1 g2 g3
        have hk0 : (0 : Int) ≤ (k : Int) := by omega
        by_cases hlt : k < xs.length
        · have d1 : (k : Int) < (xs.length : Int) := by omega
          have d1' : decide ((k : Int) < (xs.length : Int)) = true := by simpa using hlt
          by_cases hlt2 : k < ys.length
          · have d2 : (k : Int) < (ys.length : Int) := by omega
            have d2' : decide ((k : Int) < (ys.length : Int)) = true := by simpa using hlt2
            obtain ⟨b, off, rfl, _, hc⟩ := J0'.out.at_ hlt
            generalize hx : xs.getD k 0 = x at hc
            have HX := Lib.hid hx
            clear hx
            obtain ⟨b', off', rfl, _, hc'⟩ := J1'.out.at_ hlt2
            generalize hy : ys.getD k 0 = y at hc'
            have HY := Lib.hid hy
            clear hy
            have S := Lib.hid (cmpL_step xs ys k hlt hlt2)
            by_cases h3 : x < y
            · go_wp2
              go_quiet (fail)
              go_wp2
              go_ret
              exact ⟨ret_int (by rw [← HA.out, S.out, HX.out, HY.out, if_pos h3]), T.out.trans ⟨rfl, rfl, rfl, Nat.le_refl _, fun _ _ => rfl⟩⟩
            · by_cases h4 : y < x
              · go_wp2
                go_quiet (fail)
                go_wp2
                go_quiet (fail)
                go_wp2
                go_ret
                exact ⟨ret_int (by rw [← HA.out, S.out, HX.out, HY.out, if_neg (by omega), if_pos h4]), T.out.trans ⟨rfl, rfl, rfl, Nat.le_refl _, fun _ _ => rfl⟩⟩
              · go_wp2
                go_quiet (fail)
                go_wp2
                go_quiet (fail)
                go_wp2
                go_roundw
                case rel => exact ⟨k + 1, by omega, by omega, by go_num, by rw [← HA.out, S.out, HX.out, HY.out, if_neg (by omega), if_neg (by omega)], _, rfl⟩
                case measure => simp [intOf]; omega
          · obtain rfl : k = ys.length := by omega
            go_wp2
            go_ret
            exact ⟨ret_int (by rw [← HA.out, cmpL_long _ _ hlt]), T.out.trans ⟨rfl, rfl, rfl, Nat.le_refl _, fun _ _ => rfl⟩⟩
        · obtain rfl : k = xs.length := by omega
          by_cases hlt2 : xs.length < ys.length
          · go_wp2
            go_ret
            exact ⟨ret_int (by rw [← HA.out, cmpL_short _ _ hlt2]), T.out.trans ⟨rfl, rfl, rfl, Nat.le_refl _, fun _ _ => rfl⟩⟩
          · go_wp2
            go_ret
            exact ⟨ret_int (by rw [← HA.out, cmpL_same _ _ _ rfl (by omega)]), T.out.trans ⟨rfl, rfl, rfl, Nat.le_refl _, fun _ _ => rfl⟩⟩
end Go.Proofs.YtimlpdcambmcjaaGreat
