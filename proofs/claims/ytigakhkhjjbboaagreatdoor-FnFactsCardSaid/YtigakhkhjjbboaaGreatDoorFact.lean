/- What the functions on one fact answer. Conditions: none beyond each theorem's own. -/
import Derived.Test.YtigakhkhjjbboaaGreatDoorFacts
import Derived.Deep.RegionHeld3
import Derived.Outline
namespace Go.Proofs.YtigakhkhjjbboaaGreatDoor
open Go.ChangeShapes Go.WideShapes Go.ChangeAt Go.RowKit
set_option linter.unusedVariables false
set_option linter.unusedSimpArgs false

theorem set_size (w : World) (p : Addr) (u : Value) : (w.setCell p u).heap.size = w.heap.size := by simp [World.setCell]
theorem Row.set_other {w : World} {g : Nat} {xs : List Int} (h : Row w g xs) {p : Addr} {u : Value} (hp : g ≠ p.block) : Row (w.setCell p u) g xs := h.of_block (Below.heap_setCell _ _ _ _ hp)

theorem cell_new (w : World) (cs : Array Value) (t : TypeId) (i : Nat) : (w.alloc (.cells cs t)).cell? ⟨w.heap.size, i, none⟩ = cs[i]? := by
  rw [World.cell?_alloc_at _ _ _ _ rfl]
theorem below_new {w w1 : World} {o : Obj} (h : Below (w.alloc o).heap.size (w.alloc o) w1) : Below w.heap.size w w1 := ((Below.refl _ _).alloc (Nat.le_refl _) _).trans (h.mono (by simp <;> omega))
theorem cell_below_new {w w1 : World} {cs : Array Value} {t : TypeId} (h : Below (w.alloc (.cells cs t)).heap.size (w.alloc (.cells cs t)) w1) (i : Nat) : w1.cell? ⟨w.heap.size, i, none⟩ = cs[i]? := by
  rw [h.cell (p := ⟨w.heap.size, i, none⟩) (by simp), cell_new]

/-- Is (r, xs) a fact of the schema s? -/
def factB (s : List Int) (r : Int) (xs : List Int) : Bool := schB s && inB r 0 ((s.length : Int) - 1) && decide ((xs.length : Int) = s.getD r.toNat 0) && allB 0 9 xs

theorem left_same {P : Program} {f : FuncId} {args : Array Value} {w : World} {v : Value} (h : Calls P f args w fun e w' => e = .returned v ∧ w = w') : Calls P f args w fun e w' => e = .returned v ∧ w' = w :=
  h.mono fun _ _ ⟨a, b⟩ => ⟨a, b.symm⟩

set_option maxHeartbeats 1000000 in
set_option maxRecDepth 100000 in
theorem spec_IsFact (lo hi lo' hi' : Nat) (S : Option Addr) (cs : Nat) (s : List Int) (r : Int) (xs : List Int) (A : Option Addr) (c : Nat) (hls : s.length ≤ 140737488355328) (hl : xs.length ≤ 140737488355328) (w : World) (hhi : hi ≤ w.heap.size) (hhi' : hi' ≤ w.heap.size)
    (h : Ints w lo hi S s) (h' : Ints w lo' hi' A xs) :
    Calls Tryz.prog 23 #[.slice S s.length cs, .agg #[.int .i64 r, .slice A xs.length c]] w fun e w' => e = .returned (.bool (factB s r xs)) ∧ Below w.heap.size w w' := by
  have hs' : (s.length : Int) ≤ 140737488355328 := by omega
  have hx' : (xs.length : Int) ≤ 140737488355328 := by omega
  have HI := Lib.hid fun o => h.below (((Below.refl _ _).alloc (Nat.le_refl w.heap.size) o)) hhi
  have HJ := Lib.hid h'
  clear h h'
  have b0 : ∀ o, Below w.heap.size w (w.alloc o) := fun o => (Below.refl _ _).alloc (Nat.le_refl w.heap.size) o
  have B0 := Lib.hid b0
  clear b0
  by_cases c1 : schB s = true
  · have C1 := Lib.hid c1
    clear c1
    by_cases c2 : inB r 0 ((s.length : Int) - 1) = true
    · have C2 := Lib.hid c2
      have hr : 0 ≤ r ∧ r ≤ (s.length : Int) - 1 := by simpa [inB] using c2
      clear c2
      obtain ⟨k, rfl⟩ := Int.eq_ofNat_of_zero_le hr.1
      have hk : k < s.length := by omega
      have hk0 : (0 : Int) ≤ (k : Int) := by omega
      have hk1 : (k : Int) < (s.length : Int) := by omega
      obtain ⟨b, off, rfl, _, hbhi, hcell⟩ := (HI.out (.cells #[.int .i64 k, .slice A xs.length c] 27)).at_ hk
      generalize hy : s.getD k 0 = y at hcell
      have HY := Lib.hid hy
      clear hy
      have X1 := Lib.hid fun W (h : Ints W lo hi (some ⟨b, off, none⟩) s) => C1.out ▸ left_same (spec_IsSchema lo hi (some ⟨b, off, none⟩) cs s hls W h)
      have X2 := Lib.hid fun W => C2.out ▸ left_same (l1In_any (k : Int) 0 ((s.length : Int) - 1) W)
      by_cases c3 : (xs.length : Int) = y
      · have d3 : ((xs.length : Int) == y) = true := by simpa using c3
        have d3' : ((xs.length : Int) != y) = false := by simpa using c3
        have C3 := Lib.hid c3
        clear c3
        go_enter Tryz.func23, Tryz.ntmps23
        go_wp2
        go_quiet ((first | (go_at_call 29; exact Calls.quiet_of_same (X1.out _ (HI.out _))) | (go_at_call 60; exact Calls.quiet_of_same (X2.out _))))
        go_wp2
        have HB := Lib.hid (below_drewN (B0.out (.cells #[.int .i64 (k : Int), .slice A xs.length c] 27)) nq)
        go_loop [5] (fun i => ∃ j : Nat, j ≤ xs.length ∧ i = .int .i64 j ∧ allB 0 9 (xs.take j) = true) (fun i => xs.length - (intOf i).toNat)
        case atStart => exact ⟨0, by omega, rfl, rfl⟩
        case round =>
          obtain ⟨j, hj, rfl, ha⟩ := hrel
          have HA := Lib.hid ha
          clear ha
          by_cases hlt : j < xs.length
          · obtain ⟨b2, off2, rfl, _, _, hc⟩ := (HJ.out.below HB.out hhi').at_ hlt
            generalize hx : xs.getD j 0 = x at hc
            have HX := Lib.hid hx
            clear hx
            by_cases hin : inB x 0 9 = true
            · have HN := Lib.hid hin
              clear hin
              go_wp2_with fail
              refine (l1In_any x 0 9 _).mono ?_
              rintro e w' ⟨rfl, rfl⟩
              rw [HN.out]
              go_wp2
              go_round
              case rel => exact ⟨j + 1, by omega, by go_num, by rw [allB_take _ _ _ _ hlt, HA.out, HX.out, HN.out]; rfl⟩
              case measure => simp [intOf]; omega
            · have HN := Lib.hid (show inB x 0 9 = false by simpa using hin)
              clear hin
              go_wp2_with fail
              refine (l1In_any x 0 9 _).mono ?_
              rintro e w' ⟨rfl, rfl⟩
              rw [HN.out]
              go_wp2
              go_ret
              exact ⟨ret_bool (by unfold factB; rw [allB_not _ _ _ j hlt (by rw [HX.out]; exact HN.out)]; simp), HB.out⟩
          · obtain rfl : j = xs.length := by omega
            go_wp2
            go_ret
            exact ⟨ret_bool (by
              unfold factB
              have := HA.out
              rw [take_all] at this
              rw [C1.out, C2.out, this, Int.toNat_natCast, HY.out, decide_eq_true C3.out]; rfl), HB.out⟩
      · have d3 : ((xs.length : Int) == y) = false := by simpa using c3
        have d3' : ((xs.length : Int) != y) = true := by simpa using c3
        have H : factB s (k : Int) xs = false := by
          unfold factB
          rw [Int.toNat_natCast, HY.out, decide_eq_false c3]
          simp
        rw [H]
        clear c3 H
        go_enter Tryz.func23, Tryz.ntmps23
        go_wp2
        go_quiet ((first | (go_at_call 29; exact Calls.quiet_of_same (X1.out _ (HI.out _))) | (go_at_call 60; exact Calls.quiet_of_same (X2.out _))))
        go_wp2
        go_ret
        exact ⟨rfl, below_drewN (B0.out _) _⟩
    · have c2' : inB r 0 ((s.length : Int) - 1) = false := by simpa using c2
      have H : factB s r xs = false := by simp [factB, c2']
      rw [H]
      have C2 := Lib.hid c2'
      clear c2 c2' H
      have X1 := Lib.hid fun W (h : Ints W lo hi S s) => C1.out ▸ left_same (spec_IsSchema lo hi S cs s hls W h)
      have X2 := Lib.hid fun W => C2.out ▸ left_same (l1In_any r 0 ((s.length : Int) - 1) W)
      go_enter Tryz.func23, Tryz.ntmps23
      go_wp2
      go_quiet ((first | (go_at_call 29; exact Calls.quiet_of_same (X1.out _ (HI.out _))) | (go_at_call 60; exact Calls.quiet_of_same (X2.out _))))
      go_wp2
      go_ret
      exact ⟨rfl, below_drewN (B0.out _) _⟩
  · have c1' : schB s = false := by simpa using c1
    have H : factB s r xs = false := by simp [factB, c1']
    rw [H]
    have C1 := Lib.hid c1'
    clear c1 c1' H
    have X1 := Lib.hid fun W (h : Ints W lo hi S s) => C1.out ▸ left_same (spec_IsSchema lo hi S cs s hls W h)
    go_enter Tryz.func23, Tryz.ntmps23
    go_wp2
    go_quiet ((first | (go_at_call 29; exact Calls.quiet_of_same (X1.out _ (HI.out _)))))
    go_wp2
    go_ret
    exact ⟨rfl, below_drewN (B0.out _) _⟩

set_option maxHeartbeats 1000000 in
set_option maxRecDepth 100000 in
theorem impl_IsFact (lo hi lo' hi' : Nat) (S : Option Addr) (cs : Nat) (s : List Int) (r : Int) (xs : List Int) (A : Option Addr) (c : Nat) (hls : s.length ≤ 140737488355328) (hl : xs.length ≤ 140737488355328) (w : World) (hhi : hi ≤ w.heap.size) (hhi' : hi' ≤ w.heap.size)
    (h : Ints w lo hi S s) (h' : Ints w lo' hi' A xs) :
    Calls Tryz.prog 24 #[.slice S s.length cs, .agg #[.int .i64 r, .slice A xs.length c]] w fun e w' => e = .returned (.bool (factB s r xs)) ∧ Below w.heap.size w w' := by
  have hs' : (s.length : Int) ≤ 140737488355328 := by omega
  have hx' : (xs.length : Int) ≤ 140737488355328 := by omega
  have HI := Lib.hid fun o => h.below (((Below.refl _ _).alloc (Nat.le_refl w.heap.size) o)) hhi
  have HJ := Lib.hid fun o => h'.below (((Below.refl _ _).alloc (Nat.le_refl w.heap.size) o)) hhi'
  clear h h'
  have b0 : ∀ o, Below w.heap.size w (w.alloc o) := fun o => (Below.refl _ _).alloc (Nat.le_refl w.heap.size) o
  have B0 := Lib.hid b0
  clear b0
  by_cases c1 : schB s = true
  · have C1 := Lib.hid c1
    clear c1
    by_cases c2 : inB r 0 ((s.length : Int) - 1) = true
    · have C2 := Lib.hid c2
      have hr : 0 ≤ r ∧ r ≤ (s.length : Int) - 1 := by simpa [inB] using c2
      clear c2
      obtain ⟨k, rfl⟩ := Int.eq_ofNat_of_zero_le hr.1
      have hk : k < s.length := by omega
      have hk0 : (0 : Int) ≤ (k : Int) := by omega
      have hk1 : (k : Int) < (s.length : Int) := by omega
      obtain ⟨b, off, rfl, _, hbhi, hcell⟩ := (HI.out (.cells #[.int .i64 k, .slice A xs.length c] 27)).at_ hk
      generalize hy : s.getD k 0 = y at hcell
      have HY := Lib.hid hy
      clear hy
      have X1 := Lib.hid fun W (h : Ints W lo hi (some ⟨b, off, none⟩) s) => C1.out ▸ left_same (impl_IsSchema lo hi (some ⟨b, off, none⟩) cs s hls W h)
      have X2 := Lib.hid fun W => C2.out ▸ left_same (isBetween_any (k : Int) 0 ((s.length : Int) - 1) W)
      by_cases c3 : (xs.length : Int) = y
      · have d3 : ((xs.length : Int) == y) = true := by simpa using c3
        have C3 := Lib.hid c3
        clear c3
        have X3 := Lib.hid fun W (h : Ints W lo' hi' A xs) => left_same (areValues_any lo' hi' A c xs hl W h)
        have H : factB s (k : Int) xs = allB 0 9 xs := by
          unfold factB
          rw [C1.out, C2.out, Int.toNat_natCast, HY.out, decide_eq_true C3.out]
          simp
        rw [H]
        clear H
        go_enter Tryz.func24, Tryz.ntmps24
        go_wp2
        go_quiet ((first | (go_at_call 28; exact Calls.quiet_of_same (X1.out _ (HI.out _))) | (go_at_call 63; exact Calls.quiet_of_same (X2.out _)) | (go_at_call 51; exact Calls.quiet_of_same (X3.out _ (HJ.out _)))))
        go_wp2
        go_ret
        exact ⟨rfl, below_drewN (B0.out _) _⟩
      · have d3 : ((xs.length : Int) == y) = false := by simpa using c3
        have H : factB s (k : Int) xs = false := by
          unfold factB
          rw [Int.toNat_natCast, HY.out, decide_eq_false c3]
          simp
        rw [H]
        clear c3 H
        go_enter Tryz.func24, Tryz.ntmps24
        go_wp2
        go_quiet ((first | (go_at_call 28; exact Calls.quiet_of_same (X1.out _ (HI.out _))) | (go_at_call 63; exact Calls.quiet_of_same (X2.out _))))
        go_wp2
        go_ret
        exact ⟨rfl, below_drewN (B0.out _) _⟩
    · have c2' : inB r 0 ((s.length : Int) - 1) = false := by simpa using c2
      have H : factB s r xs = false := by simp [factB, c2']
      rw [H]
      have C2 := Lib.hid c2'
      clear c2 c2' H
      have X1 := Lib.hid fun W (h : Ints W lo hi S s) => C1.out ▸ left_same (impl_IsSchema lo hi S cs s hls W h)
      have X2 := Lib.hid fun W => C2.out ▸ left_same (isBetween_any r 0 ((s.length : Int) - 1) W)
      go_enter Tryz.func24, Tryz.ntmps24
      go_wp2
      go_quiet ((first | (go_at_call 28; exact Calls.quiet_of_same (X1.out _ (HI.out _))) | (go_at_call 63; exact Calls.quiet_of_same (X2.out _))))
      go_wp2
      go_ret
      exact ⟨rfl, below_drewN (B0.out _) _⟩
  · have c1' : schB s = false := by simpa using c1
    have H : factB s r xs = false := by simp [factB, c1']
    rw [H]
    have C1 := Lib.hid c1'
    clear c1 c1' H
    have X1 := Lib.hid fun W (h : Ints W lo hi S s) => C1.out ▸ left_same (impl_IsSchema lo hi S cs s hls W h)
    go_enter Tryz.func24, Tryz.ntmps24
    go_wp2
    go_quiet ((first | (go_at_call 28; exact Calls.quiet_of_same (X1.out _ (HI.out _)))))
    go_wp2
    go_ret
    exact ⟨rfl, below_drewN (B0.out _) _⟩
end Go.Proofs.YtigakhkhjjbboaaGreatDoor
