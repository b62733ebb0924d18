/- Lists of numbers in memory, and what the small functions on numbers and lists of numbers answer. Conditions: none beyond each theorem's own. What the functions on lists of numbers answer. Conditions: none beyond each theorem's own. What copying, marking and asking for marks on lists of numbers do. Conditions: none beyond each theorem's own. Arguments opened to what lies in memory, and a law's end: the arguments read as they did. Conditions: none beyond each theorem's own. Facts in memory, and what the functions on one fact answer. Conditions: none beyond each theorem's own. -/
import Derived.Test.YtimlpdcambmcjaaGreatRows
import Derived.WalkKit
import Derived.ProofKit
import Derived.OpenShut
import Derived.ShutString
import Derived.Below
import Derived.Handy
import Derived.Carry
import Derived.ChangeSame
import Derived.WalkLawsBesides
import Derived.WalkSpells
import Derived.Lib.Hide
import Derived.OwnWalk
import Derived.Laws.OwnMore
import Derived.Laws.AppendOwn
import Derived.BigQuiet
import Derived.Deep.QuietTactic
import Derived.Deep.OwnRows
import Derived.Deep.Draws
import Derived.IntWalk
import Derived.Deep.Slices
import Derived.Deep.Fields
import Derived.Lib.SmallJoins

namespace Go.Proofs.YtimlpdcambmcjaaGreat
open Go.ChangeShapes Go.WideShapes Go.ChangeAt Go.RowKit
set_option linter.unusedVariables false

set_option maxRecDepth 100000 in
theorem own : ownKnob Tryz.prog.godebug = none := by kernel_rfl
theorem ret_str {a b : ByteArray} (h : a = b) : Ending.returned (.string a) = .returned (.string b) := by rw [h]
theorem ret_int {k : IntKind} {a b : Int} (h : a = b) : Ending.returned (.int k a) = .returned (.int k b) := by rw [h]
theorem ret_bool {a b : Bool} (h : a = b) : Ending.returned (.bool a) = .returned (.bool b) := by rw [h]
theorem below_drewN {B : Nat} {a w : World} (h : Below B a w) (n : Nat) : Below B a (w.drewN n) := ⟨h.os, h.tape, h.output, h.size, h.block⟩
theorem bcell {B : Nat} {W w1 : World} (hb : Below B W w1) : (∀ b o, b < B → w1.cell? ⟨b, o, none⟩ = W.cell? ⟨b, o, none⟩) ∧ (∀ b o, b < B → w1.frozen? ⟨b, o, none⟩ = W.frozen? ⟨b, o, none⟩) :=
  ⟨fun b o h => hb.cell (p := ⟨b, o, none⟩) h, fun b o h => hb.frozen (p := ⟨b, o, none⟩) h⟩

/-- At the address A lie the numbers xs, in a block from lo to below hi. -/
def Ints (w : World) (lo hi : Nat) (A : Option Addr) (xs : List Int) : Prop :=
  xs ≠ [] → ∃ b off, A = some ⟨b, off, none⟩ ∧ lo ≤ b ∧ b < hi ∧ ∀ k, k < xs.length → w.cell? ⟨b, off + k, none⟩ = some (.int .i64 (xs.getD k 0))
theorem Ints.at_ {w : World} {lo hi : Nat} {A : Option Addr} {xs : List Int} (h : Ints w lo hi A xs) {k : Nat} (hk : k < xs.length) :
    ∃ b off, A = some ⟨b, off, none⟩ ∧ lo ≤ b ∧ b < hi ∧ w.cell? ⟨b, off + k, none⟩ = some (.int .i64 (xs.getD k 0)) := by
  obtain ⟨b, off, h1, h2, h3, h4⟩ := h (by rintro rfl; simp at hk)
  exact ⟨b, off, h1, h2, h3, h4 k hk⟩
theorem Ints.keep {w w' : World} {lo hi : Nat} {A : Option Addr} {xs : List Int} (h : Ints w lo hi A xs) (hk : ∀ b, lo ≤ b → b < hi → w'.heap[b]? = w.heap[b]?) : Ints w' lo hi A xs := fun hx => by
  obtain ⟨b, off, h1, h2, h3, h4⟩ := h hx
  exact ⟨b, off, h1, h2, h3, fun k hkx => (World.cell?_of_block (w := w) (a := ⟨b, off + k, none⟩) (hk b h2 h3)).trans (h4 k hkx)⟩
theorem Ints.below {w w' : World} {lo hi N : Nat} {A : Option Addr} {xs : List Int} (h : Ints w lo hi A xs) (hb : Below N w w') (hN : hi ≤ N) : Ints w' lo hi A xs :=
  h.keep fun b _ h2 => hb.block b (by omega)
theorem Ints.mono {w : World} {lo hi lo' hi' : Nat} {A : Option Addr} {xs : List Int} (h : Ints w lo hi A xs) (h1 : lo' ≤ lo) (h2 : hi ≤ hi') : Ints w lo' hi' A xs := fun hx => by
  obtain ⟨b, off, e, h3, h4, h5⟩ := h hx
  exact ⟨b, off, e, by omega, by omega, h5⟩
theorem Ints.alloc {w : World} {lo hi : Nat} {A : Option Addr} {xs : List Int} (h : Ints w lo hi A xs) (hN : hi ≤ w.heap.size) (o : Obj) : Ints (w.alloc o) lo hi A xs :=
  h.keep fun b _ h2 => Below.heap_alloc _ _ _ (by omega)

/-- Is x from a to b? -/
def inB (x a b : Int) : Bool := decide (a ≤ x) && decide (x ≤ b)

set_option maxRecDepth 100000 in
theorem l1In_any (x a b : Int) (w : World) : Calls Tryz.prog 78 #[.int .i64 x, .int .i64 a, .int .i64 b] w fun e w' => e = .returned (.bool (inB x a b)) ∧ w = w' := by
  by_cases h1 : a ≤ x
  · have d1 : decide (a ≤ x) = true := by simpa using h1
    by_cases h2 : x ≤ b
    · have H : inB x a b = true := by simp [inB, h1, h2]
      rw [H]
      go_enter Tryz.func78, Tryz.ntmps78
      go_wp2
      go_ret
      exact ⟨rfl, rfl⟩
    · have H : inB x a b = false := by simp [inB, h1, h2]
      rw [H]
      have d2 : decide (x ≤ b) = false := by simpa using h2
      go_enter Tryz.func78, Tryz.ntmps78
      go_wp2
      go_ret
      exact ⟨rfl, rfl⟩
  · have H : inB x a b = false := by simp [inB, h1]
    rw [H]
    have d1 : decide (a ≤ x) = false := by simpa using h1
    go_enter Tryz.func78, Tryz.ntmps78
    go_wp2
    go_ret
    exact ⟨rfl, rfl⟩

set_option maxRecDepth 100000 in
theorem isBetween_any (x a b : Int) (w : World) : Calls Tryz.prog 86 #[.int .i64 x, .int .i64 a, .int .i64 b] w fun e w' => e = .returned (.bool (inB x a b)) ∧ w = w' := by
  by_cases h1 : a ≤ x
  · have d1 : decide (a ≤ x) = true := by simpa using h1
    by_cases h2 : x ≤ b
    · have H : inB x a b = true := by simp [inB, h1, h2]
      rw [H]
      go_enter Tryz.func86, Tryz.ntmps86
      go_wp2
      go_ret
      exact ⟨rfl, rfl⟩
    · have H : inB x a b = false := by simp [inB, h1, h2]
      rw [H]
      have d2 : decide (x ≤ b) = false := by simpa using h2
      go_enter Tryz.func86, Tryz.ntmps86
      go_wp2
      go_ret
      exact ⟨rfl, rfl⟩
  · have H : inB x a b = false := by simp [inB, h1]
    rw [H]
    have d1 : decide (a ≤ x) = false := by simpa using h1
    go_enter Tryz.func86, Tryz.ntmps86
    go_wp2
    go_ret
    exact ⟨rfl, rfl⟩

set_option maxRecDepth 100000 in
theorem isArity_any (x : Int) (w : World) : Calls Tryz.prog 137 #[.int .i64 x] w fun e w' => e = .returned (.bool (inB x 1 3)) ∧ w = w' := by
  go_enter Tryz.func137, Tryz.ntmps137
  go_wp2_with fail
  refine (isBetween_any x 1 3 _).mono ?_
  rintro e w' ⟨rfl, rfl⟩
  go_wp2
  go_ret
  exact ⟨rfl, rfl⟩

/-- Are all numbers from a to b? -/
def allB (a b : Int) (xs : List Int) : Bool := xs.all fun x => inB x a b
theorem allB_take (a b : Int) (xs : List Int) (k : Nat) (hk : k < xs.length) : allB a b (xs.take (k + 1)) = (allB a b (xs.take k) && inB (xs.getD k 0) a b) := by
  unfold allB
  rw [List.take_succ_eq_append_getElem hk, List.all_append]
  simp [List.getD_eq_getElem?_getD, hk]
theorem allB_not (a b : Int) (xs : List Int) (k : Nat) (hk : k < xs.length) (h : inB (xs.getD k 0) a b = false) : allB a b xs = false := by
  unfold allB
  rw [List.all_eq_false]
  refine ⟨xs[k], List.getElem_mem _, ?_⟩
  have : xs.getD k 0 = xs[k] := by simp [List.getD_eq_getElem?_getD, hk]
  rw [this] at h
  simp [h]
theorem take_all {α : Type} (xs : List α) : xs.take xs.length = xs := List.take_length

def schB (s : List Int) : Bool := allB 1 3 s && inB (s.length : Int) 1 3

set_option maxHeartbeats 400000 in
set_option maxRecDepth 100000 in
theorem spec_IsSchema (lo hi : Nat) (A : Option Addr) (c : Nat) (s : List Int) (hl : s.length ≤ 140737488355328) (w : World) (h : Ints w lo hi A s) :
    Calls Tryz.prog 77 #[.slice A s.length c] w fun e w' => e = .returned (.bool (schB s)) ∧ w = w' := by
  have HI := Lib.hid h
  clear h
  have hl' : (s.length : Int) ≤ 140737488355328 := by omega
  go_enter Tryz.func77, Tryz.ntmps77
  go_wp2
  go_loop [3] (fun i => ∃ k : Nat, k ≤ s.length ∧ i = .int .i64 k ∧ allB 1 3 (s.take k) = true) (fun i => s.length - (intOf i).toNat)
  case atStart => exact ⟨0, by omega, rfl, rfl⟩
  case round =>
    obtain ⟨k, hk, rfl, ha⟩ := hrel
    have HA := Lib.hid ha
    clear ha
    by_cases hlt : k < s.length
    · obtain ⟨b, off, rfl, _, _, hc⟩ := HI.out.at_ hlt
      generalize hx : s.getD k 0 = x at hc
      have HX := Lib.hid hx
      clear hx
      by_cases hin : inB x 1 3 = true
      · go_wp2_with fail
        refine (l1In_any x 1 3 _).mono ?_
        rintro e w' ⟨rfl, rfl⟩
        rw [hin]
        go_wp2
        go_round
        case rel => exact ⟨k + 1, by omega, by go_num, by rw [allB_take _ _ _ _ hlt, HA.out, HX.out, hin]; rfl⟩
        case measure => simp [intOf]; omega
      · have hin' : inB x 1 3 = false := by simpa using hin
        go_wp2_with fail
        refine (l1In_any x 1 3 _).mono ?_
        rintro e w' ⟨rfl, rfl⟩
        rw [hin']
        go_wp2
        go_ret
        exact ⟨ret_bool (by unfold schB; rw [allB_not _ _ _ k hlt (by rw [HX.out]; exact hin')]; rfl), rfl⟩
    · obtain rfl : k = s.length := by omega
      go_wp2_with fail
      refine (l1In_any (s.length : Int) 1 3 _).mono ?_
      rintro e w' ⟨rfl, rfl⟩
      go_wp2
      go_ret
      exact ⟨ret_bool (by unfold schB; have := HA.out; rw [take_all] at this; rw [this]; rfl), rfl⟩
end Go.Proofs.YtimlpdcambmcjaaGreat

namespace Go.Proofs.YtimlpdcambmcjaaGreat
open Go.ChangeShapes Go.WideShapes Go.ChangeAt Go.RowKit
set_option linter.unusedVariables false

set_option maxHeartbeats 400000 in
set_option maxRecDepth 100000 in
theorem impl_IsSchema (lo hi : Nat) (A : Option Addr) (c : Nat) (s : List Int) (hl : s.length ≤ 140737488355328) (w : World) (h : Ints w lo hi A s) :
    Calls Tryz.prog 102 #[.slice A s.length c] w fun e w' => e = .returned (.bool (schB s)) ∧ w = w' := by
  have HI := Lib.hid h
  clear h
  have hl' : (s.length : Int) ≤ 140737488355328 := by omega
  go_enter Tryz.func102, Tryz.ntmps102
  go_wp2
  go_loop [4, 7] (fun _ i => ∃ k : Nat, k ≤ s.length ∧ i = .int .i64 k ∧ allB 1 3 (s.take k) = true) (fun _ i => s.length - (intOf i).toNat)
  case atStart => exact ⟨0, by omega, rfl, rfl⟩
  case round =>
    obtain ⟨k, hk, rfl, ha⟩ := hrel
    have HA := Lib.hid ha
    clear ha
    by_cases hlt : k < s.length
    · obtain ⟨b, off, rfl, _, _, hc⟩ := HI.out.at_ hlt
      generalize hx : s.getD k 0 = x at hc
      have HX := Lib.hid hx
      clear hx
      by_cases hin : inB x 1 3 = true
      · go_wp2_with fail
        refine (isArity_any x _).mono ?_
        rintro e w' ⟨rfl, rfl⟩
        rw [hin]
        go_wp2
        go_round
        case rel => exact ⟨k + 1, by omega, by go_num, by rw [allB_take _ _ _ _ hlt, HA.out, HX.out, hin]; rfl⟩
        case measure => simp [intOf]; omega
      · have hin' : inB x 1 3 = false := by simpa using hin
        go_wp2_with fail
        refine (isArity_any x _).mono ?_
        rintro e w' ⟨rfl, rfl⟩
        rw [hin']
        go_wp2
        go_ret
        exact ⟨ret_bool (by unfold schB; rw [allB_not _ _ _ k hlt (by rw [HX.out]; exact hin')]; rfl), rfl⟩
    · obtain rfl : k = s.length := by omega
      go_wp2_with fail
      refine (isBetween_any (s.length : Int) 1 3 _).mono ?_
      rintro e w' ⟨rfl, rfl⟩
      go_wp2
      go_ret
      exact ⟨ret_bool (by unfold schB; have := HA.out; rw [take_all] at this; rw [this]; rfl), rfl⟩

set_option maxRecDepth 100000 in
theorem isValue_any (x : Int) (w : World) : Calls Tryz.prog 131 #[.int .i64 x] w fun e w' => e = .returned (.bool (inB x 0 9)) ∧ w = w' := by
  go_enter Tryz.func131, Tryz.ntmps131
  go_wp2_with fail
  refine (isBetween_any x 0 9 _).mono ?_
  rintro e w' ⟨rfl, rfl⟩
  go_wp2
  go_ret
  exact ⟨rfl, rfl⟩

set_option maxRecDepth 100000 in
theorem impl_IsVar (x : Int) (w : World) : Calls Tryz.prog 151 #[.int .i64 x] w fun e w' => e = .returned (.bool (inB x 10 17)) ∧ w = w' := by
  go_enter Tryz.func151, Tryz.ntmps151
  go_wp2_with fail
  refine (isBetween_any x 10 17 _).mono ?_
  rintro e w' ⟨rfl, rfl⟩
  go_wp2
  go_ret
  exact ⟨rfl, rfl⟩

set_option maxRecDepth 100000 in
theorem spec_IsVar (x : Int) (w : World) : Calls Tryz.prog 117 #[.int .i64 x] w fun e w' => e = .returned (.bool (inB x 10 17)) ∧ w = w' := by
  go_enter Tryz.func117, Tryz.ntmps117
  go_wp2_with fail
  refine (l1In_any x 10 17 _).mono ?_
  rintro e w' ⟨rfl, rfl⟩
  go_wp2
  go_ret
  exact ⟨rfl, rfl⟩

theorem term_yes {x : Int} (h : inB x 0 9 = true) : inB x 0 17 = true := by
  simp [inB] at h ⊢
  omega
theorem term_no {x : Int} (h : inB x 0 9 = false) : inB x 0 17 = inB x 10 17 := by
  have h' : ¬ (0 ≤ x ∧ x ≤ 9) := by simpa [inB] using h
  unfold inB
  rw [Bool.eq_iff_iff]
  simp
  omega
set_option maxRecDepth 100000 in
theorem impl_IsTerm (x : Int) (w : World) : Calls Tryz.prog 126 #[.int .i64 x] w fun e w' => e = .returned (.bool (inB x 0 17)) ∧ w = w' := by
  by_cases h : inB x 0 9 = true
  · have H := Lib.hid h
    have T := Lib.hid (term_yes h)
    clear h
    go_enter Tryz.func126, Tryz.ntmps126
    go_wp2_with fail
    refine (isValue_any x _).mono ?_
    rintro e w' ⟨he, rfl⟩
    rw [H.out] at he
    subst he
    go_wp2
    go_ret
    exact ⟨ret_bool T.out.symm, rfl⟩
  · have H := Lib.hid (show inB x 0 9 = false by simpa using h)
    have T := Lib.hid (term_no H.out)
    clear h
    go_enter Tryz.func126, Tryz.ntmps126
    go_wp2_with fail
    refine (isValue_any x _).mono ?_
    rintro e w' ⟨he, rfl⟩
    rw [H.out] at he
    subst he
    go_wp2_with fail
    refine (impl_IsVar x _).mono ?_
    rintro e w' ⟨rfl, rfl⟩
    go_wp2
    go_ret
    exact ⟨ret_bool T.out.symm, rfl⟩

set_option maxRecDepth 100000 in
theorem spec_IsTerm (x : Int) (w : World) : Calls Tryz.prog 116 #[.int .i64 x] w fun e w' => e = .returned (.bool (inB x 0 17)) ∧ w = w' := by
  by_cases h : inB x 0 9 = true
  · have H := Lib.hid h
    have T := Lib.hid (term_yes h)
    clear h
    go_enter Tryz.func116, Tryz.ntmps116
    go_wp2_with fail
    refine (l1In_any x 0 9 _).mono ?_
    rintro e w' ⟨he, rfl⟩
    rw [H.out] at he
    subst he
    go_wp2
    go_ret
    exact ⟨ret_bool T.out.symm, rfl⟩
  · have H := Lib.hid (show inB x 0 9 = false by simpa using h)
    have T := Lib.hid (term_no H.out)
    clear h
    go_enter Tryz.func116, Tryz.ntmps116
    go_wp2_with fail
    refine (l1In_any x 0 9 _).mono ?_
    rintro e w' ⟨he, rfl⟩
    rw [H.out] at he
    subst he
    go_wp2_with fail
    refine (spec_IsVar x _).mono ?_
    rintro e w' ⟨rfl, rfl⟩
    go_wp2
    go_ret
    exact ⟨ret_bool T.out.symm, rfl⟩

set_option maxHeartbeats 400000 in
set_option maxRecDepth 100000 in
theorem areAll_value (lo hi : Nat) (A : Option Addr) (c : Nat) (s : List Int) (hl : s.length ≤ 140737488355328) (w : World) (h : Ints w lo hi A s) :
    Calls Tryz.prog 125 #[.slice A s.length c, .func (.func 131) #[] #[]] w fun e w' => e = .returned (.bool (allB 0 9 s)) ∧ w = w' := by
  have HI := Lib.hid h
  clear h
  have hl' : (s.length : Int) ≤ 140737488355328 := by omega
  go_enter Tryz.func125, Tryz.ntmps125
  go_wp2
  go_loop [6, 9] (fun _ i => ∃ k : Nat, k ≤ s.length ∧ i = .int .i64 k ∧ allB 0 9 (s.take k) = true) (fun _ i => s.length - (intOf i).toNat)
  case atStart => exact ⟨0, by omega, rfl, rfl⟩
  case round =>
    obtain ⟨k, hk, rfl, ha⟩ := hrel
    have HA := Lib.hid ha
    clear ha
    by_cases hlt : k < s.length
    · obtain ⟨b, off, rfl, _, _, hc⟩ := HI.out.at_ hlt
      generalize hx : s.getD k 0 = x at hc
      have HX := Lib.hid hx
      clear hx
      by_cases hin : inB x 0 9 = true
      · go_wp2_with fail
        refine (isValue_any x _).mono ?_
        rintro e w' ⟨rfl, rfl⟩
        rw [hin]
        go_wp2
        go_round
        case rel => exact ⟨k + 1, by omega, by go_num, by rw [allB_take _ _ _ _ hlt, HA.out, HX.out, hin]; rfl⟩
        case measure => simp [intOf]; omega
      · have hin' : inB x 0 9 = false := by simpa using hin
        go_wp2_with fail
        refine (isValue_any x _).mono ?_
        rintro e w' ⟨rfl, rfl⟩
        rw [hin']
        go_wp2
        go_ret
        exact ⟨ret_bool (allB_not _ _ _ k hlt (by rw [HX.out]; exact hin')).symm, rfl⟩
    · obtain rfl : k = s.length := by omega
      go_wp2
      go_ret
      exact ⟨ret_bool (by have := HA.out; rw [take_all] at this; rw [this]), rfl⟩

set_option maxHeartbeats 400000 in
set_option maxRecDepth 100000 in
theorem areAll_term (lo hi : Nat) (A : Option Addr) (c : Nat) (s : List Int) (hl : s.length ≤ 140737488355328) (w : World) (h : Ints w lo hi A s) :
    Calls Tryz.prog 125 #[.slice A s.length c, .func (.func 126) #[] #[]] w fun e w' => e = .returned (.bool (allB 0 17 s)) ∧ w = w' := by
  have HI := Lib.hid h
  clear h
  have hl' : (s.length : Int) ≤ 140737488355328 := by omega
  go_enter Tryz.func125, Tryz.ntmps125
  go_wp2
  go_loop [6, 9] (fun _ i => ∃ k : Nat, k ≤ s.length ∧ i = .int .i64 k ∧ allB 0 17 (s.take k) = true) (fun _ i => s.length - (intOf i).toNat)
  case atStart => exact ⟨0, by omega, rfl, rfl⟩
  case round =>
    obtain ⟨k, hk, rfl, ha⟩ := hrel
    have HA := Lib.hid ha
    clear ha
    by_cases hlt : k < s.length
    · obtain ⟨b, off, rfl, _, _, hc⟩ := HI.out.at_ hlt
      generalize hx : s.getD k 0 = x at hc
      have HX := Lib.hid hx
      clear hx
      by_cases hin : inB x 0 17 = true
      · go_wp2_with fail
        refine (impl_IsTerm x _).mono ?_
        rintro e w' ⟨rfl, rfl⟩
        rw [hin]
        go_wp2
        go_round
        case rel => exact ⟨k + 1, by omega, by go_num, by rw [allB_take _ _ _ _ hlt, HA.out, HX.out, hin]; rfl⟩
        case measure => simp [intOf]; omega
      · have hin' : inB x 0 17 = false := by simpa using hin
        go_wp2_with fail
        refine (impl_IsTerm x _).mono ?_
        rintro e w' ⟨rfl, rfl⟩
        rw [hin']
        go_wp2
        go_ret
        exact ⟨ret_bool (allB_not _ _ _ k hlt (by rw [HX.out]; exact hin')).symm, rfl⟩
    · obtain rfl : k = s.length := by omega
      go_wp2
      go_ret
      exact ⟨ret_bool (by have := HA.out; rw [take_all] at this; rw [this]), rfl⟩

set_option maxRecDepth 100000 in
theorem areValues_any (lo hi : Nat) (A : Option Addr) (c : Nat) (s : List Int) (hl : s.length ≤ 140737488355328) (w : World) (h : Ints w lo hi A s) :
    Calls Tryz.prog 138 #[.slice A s.length c] w fun e w' => e = .returned (.bool (allB 0 9 s)) ∧ w = w' := by
  go_enter Tryz.func138, Tryz.ntmps138
  go_wp2_with fail
  refine (areAll_value lo hi A c s hl _ h).mono ?_
  rintro e w' ⟨rfl, rfl⟩
  go_wp2
  go_ret
  exact ⟨rfl, rfl⟩

theorem eq_take (xs ys : List Int) (hl : xs.length = ys.length) (k : Nat) (hk : k < xs.length) (h : xs.take k = ys.take k) (he : xs.getD k 0 = ys.getD k 0) : xs.take (k + 1) = ys.take (k + 1) := by
  rw [List.take_succ_eq_append_getElem hk, List.take_succ_eq_append_getElem (by omega), h]
  have h1 : xs[k] = xs.getD k 0 := by simp [List.getD_eq_getElem?_getD, hk]
  have h2 : ys[k]'(by omega) = ys.getD k 0 := by simp [List.getD_eq_getElem?_getD, show k < ys.length by omega]
  rw [h1, h2, he]

set_option maxHeartbeats 400000 in
set_option maxRecDepth 100000 in
theorem eqIntS_any (lo hi lo' hi' : Nat) (A A' : Option Addr) (c c' : Nat) (xs ys : List Int) (hl : xs.length ≤ 140737488355328) (hl2 : ys.length ≤ 140737488355328) (w : World) (h : Ints w lo hi A xs) (h' : Ints w lo' hi' A' ys) :
    Calls Tryz.prog 13 #[.slice A xs.length c, .slice A' ys.length c'] w fun e w' => e = .returned (.bool (decide (xs = ys))) ∧ Below w.heap.size w w' := by
  by_cases hlen : xs.length = ys.length
  · have HI := Lib.hid h
    have HJ := Lib.hid h'
    have HL := Lib.hid hlen
    clear h h'
    have hl' : (xs.length : Int) ≤ 140737488355328 := by omega
    rw [← hlen]
    clear hlen
    go_enter Tryz.func13, Tryz.ntmps13
    go_wp2
    go_loopw [5] (fun i wr => ∃ k : Nat, k ≤ xs.length ∧ i = .int .i64 k ∧ xs.take k = ys.take k ∧ Below w.heap.size w wr ∧ wr.heap = w.heap) (fun i _ => xs.length - (intOf i).toNat)
    case atStart => exact ⟨0, by omega, rfl, rfl, Below.refl _ _, rfl⟩
    case round =>
      obtain ⟨k, hk, rfl, ha, hb, hh⟩ := hrel
      have HA := Lib.hid ha
      have HH := Lib.hid hh
      clear ha hh
      by_cases hlt : k < xs.length
      · have HI1 : Ints wr lo hi A xs := HI.out.keep fun b _ _ => by rw [HH.out]
        have HJ1 : Ints wr lo' hi' A' ys := HJ.out.keep fun b _ _ => by rw [HH.out]
        obtain ⟨b, off, rfl, _, _, hc⟩ := HI1.at_ hlt
        obtain ⟨b', off', rfl, _, _, hc'⟩ := HJ1.at_ (show k < ys.length by have := HL.out; omega)
        generalize hx : xs.getD k 0 = x at hc
        generalize hy : ys.getD k 0 = y at hc'
        have HX := Lib.hid hx
        have HY := Lib.hid hy
        clear hx hy HI1 HJ1
        have hk0 : (0 : Int) ≤ (k : Int) := by omega
        have hk1 : (k : Int) < (xs.length : Int) := by omega
        by_cases hin : x = y
        · subst hin
          go_wp2
          go_quiet (fail)
          go_wp2
          go_roundw
          case rel => exact ⟨k + 1, by omega, by go_num, eq_take _ _ HL.out _ hlt HA.out (by rw [HX.out, HY.out]), below_drewN hb _, HH.out⟩
          case measure => simp [intOf]; omega
        · have hd : (x == y) = false := by simpa using hin
          have hd2 : (x != y) = true := by simpa using hin
          go_wp2
          go_quiet (fail)
          go_wp2
          go_ret
          exact ⟨ret_bool (by rw [decide_eq_false]; rintro rfl; exact hin (HX.out.symm.trans HY.out)), below_drewN hb _⟩
      · obtain rfl : k = xs.length := by omega
        go_wp2
        go_ret
        exact ⟨ret_bool (by rw [decide_eq_true]; have := HA.out; rwa [take_all, HL.out, take_all] at this), hb⟩
  · have hd : ((xs.length : Int) == (ys.length : Int)) = false := by simp; omega
    have hd2 : ((xs.length : Int) != (ys.length : Int)) = true := by simp; omega
    have H := Lib.hid hlen
    clear hlen
    go_enter Tryz.func13, Tryz.ntmps13
    go_wp2
    go_ret
    exact ⟨ret_bool (by rw [decide_eq_false]; rintro rfl; exact H.out rfl), Below.refl _ _⟩

set_option maxRecDepth 100000 in
theorem szIntS_any (A : Option Addr) (c n : Nat) (left : Int) (hl : n ≤ 9223372036854775807) (h0 : 0 ≤ left) (h1 : left ≤ 1048576) (w : World) :
    Calls Tryz.prog 35 #[.slice A n c, .int .i64 left] w fun e w' => e = .returned (.int .i64 (if left - n < 0 then -1 else left - n)) ∧ w = w' := by
  have hl' : (n : Int) ≤ 9223372036854775807 := by omega
  by_cases h : left - n < 0
  · rw [if_pos h]
    go_enter Tryz.func35, Tryz.ntmps35
    go_wp2
    go_ret
    exact ⟨rfl, rfl⟩
  · rw [if_neg h]
    have h' : (n : Int) ≤ left := by omega
    go_enter Tryz.func35, Tryz.ntmps35
    go_wp2
    go_ret
    exact ⟨rfl, rfl⟩
end Go.Proofs.YtimlpdcambmcjaaGreat

namespace Go.Proofs.YtimlpdcambmcjaaGreat
open Go.ChangeShapes Go.WideShapes Go.ChangeAt Go.RowKit
set_option linter.unusedVariables false
set_option linter.unusedSimpArgs false

set_option maxRecDepth 100000 in
theorem int_info : (Tryz.prog.info? 3).map (fun i => (i.zero, i.size, i.bytes)) = some (some (.int .i64 0), 1, 8) := by kernel_rfl

/-- Block g is just the numbers xs, not frozen. -/
def Row (w : World) (g : Nat) (xs : List Int) : Prop := w.rowIs g 3 xs.length (fun i => .int .i64 (xs.getD i 0))
theorem Row.ints {w : World} {g : Nat} {xs : List Int} (h : Row w g xs) : Ints w g (g + 1) (some ⟨g, 0, none⟩) xs := fun _ =>
  ⟨g, 0, rfl, by omega, by omega, fun k hk => by rw [Nat.zero_add]; exact World.rowIs.cell h hk⟩
theorem Row.of_block {w w' : World} {g : Nat} {xs : List Int} (h : Row w g xs) (e : w'.heap[g]? = w.heap[g]?) : Row w' g xs := World.rowIs.of_block h e

theorem makeInts (n : Nat) (hn : n ≤ 1048576) (W : World) :
    ∃ C : Array Value, (∀ i, i < n → C[i]? = some (.int .i64 0)) ∧ C.size = n ∧ ∀ W : World, (Instr.makeSlice 22 (.int .i64 (n : Int)) (.int .i64 (n : Int))).run Tryz.prog W = .ok (.slice (some ⟨W.heap.size, 0, none⟩) n n) (W.alloc (.cells C 3)) := by
  obtain ⟨i0, hi, hz0, hz1, hz2⟩ := info_parts int_info
  refine ⟨madeCells #[.int .i64 0] n, fun i hin => ?_, size_madeCells _ _, fun W => ?_⟩
  · simp [madeCells, hin, Nat.mod_one]
  · have h := run_make (P := Tryz.prog) W 22 3 i0 (.int .i64 0) Tryz.underlying22 hi hz0 .i64 .i64 (n : Int) (n : Int) (by omega) (by omega) (by rw [hz2]; omega) (by omega)
    rw [hz1, show ((n : Int)).toNat = n by omega, Nat.mul_one] at h
    exact h

set_option maxHeartbeats 400000 in
set_option maxRecDepth 100000 in
theorem toIntS_any (lo hi : Nat) (A : Option Addr) (c : Nat) (xs : List Int) (hl : xs.length ≤ 1048576) (w : World) (hhi : hi ≤ w.heap.size) (h : Ints w lo hi A xs) :
    Calls Tryz.prog 9 #[.slice A xs.length c] w fun e w' => e = .returned (.slice (some ⟨w.heap.size, 0, none⟩) xs.length xs.length) ∧ Row w' w.heap.size xs ∧ Below w.heap.size w w' ∧ w'.heap.size = w.heap.size + 1 := by
  obtain ⟨C, hC, hCs, hmk⟩ := makeInts xs.length hl w
  have HI := Lib.hid h
  have HC := Lib.hid hC
  have HS := Lib.hid hCs
  clear h hC hCs
  have hl' : (xs.length : Int) ≤ 1048576 := by omega
  go_enter Tryz.func9, Tryz.ntmps9
  go_wp2
  go_loopw [4] (fun i wr => ∃ k : Nat, k ≤ xs.length ∧ i = .int .i64 k ∧ (∃ f, wr.rowIs w.heap.size 3 xs.length f ∧ ∀ j, j < k → f j = .int .i64 (xs.getD j 0)) ∧ Below w.heap.size w wr ∧ wr.heap.size = w.heap.size + 1) (fun i _ => xs.length - (intOf i).toNat)
  case atStart => exact ⟨0, by omega, rfl, ⟨fun _ => .int .i64 0, ⟨C, by rw [heap_alloc_new], HS.out, fun i hi => HC.out i hi⟩, fun j hj => by omega⟩, (Below.refl _ _).alloc (Nat.le_refl _) _, by simp⟩
  case round =>
    obtain ⟨k, hk, rfl, ⟨f, hr, hf⟩, hb, hsz⟩ := hrel
    have HF := Lib.hid hf
    have HR := Lib.hid hr
    have HZ := Lib.hid hsz
    clear hf hr hsz
    by_cases hlt : k < xs.length
    · have hz1 := HR.out.cell hlt
      have hz2 := HR.out.frozen k
      obtain ⟨b, off, rfl, _, hbhi, hc⟩ := (HI.out.below hb hhi).at_ hlt
      generalize hx : xs.getD k 0 = x at hc
      have HX := Lib.hid hx
      clear hx
      go_wp2
      go_roundw
      case rel =>
        refine ⟨k + 1, by omega, by go_num, ⟨_, HR.out.set k _, fun j hj => ?_⟩, hb.setCell (Nat.le_refl _) _, by rw [← HZ.out]; simp [World.setCell]⟩
        by_cases e : j = k
        · subst e; rw [if_pos rfl, HX.out]
        · rw [if_neg e]; exact HF.out j (by omega)
      case measure => simp [intOf]; omega
    · obtain rfl : k = xs.length := by omega
      go_wp2
      go_ret
      exact ⟨rfl, HR.out.congr fun i hi => HF.out i hi, hb, HZ.out⟩

/-- Only the blocks from lo to below hi have turned. -/
structure Within (lo hi : Nat) (w w' : World) : Prop where
  os : w'.os = w.os
  tape : w'.tape = w.tape
  output : w'.output = w.output
  size : w'.heap.size = w.heap.size
  block : ∀ k, k < lo ∨ hi ≤ k → w'.heap[k]? = w.heap[k]?
theorem Within.refl (lo hi : Nat) (w : World) : Within lo hi w w := ⟨rfl, rfl, rfl, rfl, fun _ _ => rfl⟩
theorem Within.trans {lo hi : Nat} {a b c : World} (h : Within lo hi a b) (k : Within lo hi b c) : Within lo hi a c :=
  ⟨k.os.trans h.os, k.tape.trans h.tape, k.output.trans h.output, k.size.trans h.size, fun i hi => (k.block i hi).trans (h.block i hi)⟩
theorem Within.mono {lo hi lo' hi' : Nat} {a b : World} (h : Within lo hi a b) (h1 : lo' ≤ lo) (h2 : hi ≤ hi') : Within lo' hi' a b :=
  ⟨h.os, h.tape, h.output, h.size, fun k hk => h.block k (by omega)⟩
theorem Within.set {lo hi : Nat} {a w : World} (h : Within lo hi a w) {p : Addr} (h1 : lo ≤ p.block) (h2 : p.block < hi) (u : Value) : Within lo hi a (w.setCell p u) :=
  h.trans ⟨rfl, rfl, rfl, by simp [World.setCell], fun k hk => Below.heap_setCell _ _ _ _ (by omega)⟩
theorem Within.drewN {lo hi : Nat} {a w : World} (h : Within lo hi a w) (n : Nat) : Within lo hi a (w.drewN n) := ⟨h.os, h.tape, h.output, h.size, h.block⟩
theorem Within.below {lo hi : Nat} {a w : World} (h : Within lo hi a w) : Below lo a w := ⟨h.os, h.tape, h.output, by rw [h.size]; exact Nat.le_refl _, fun k hk => h.block k (.inl hk)⟩
theorem Ints.within {w w' : World} {lo hi l h' : Nat} {A : Option Addr} {xs : List Int} (h : Ints w lo hi A xs) (hb : Within l h' w w') (hN : hi ≤ l ∨ h' ≤ lo) : Ints w' lo hi A xs :=
  h.keep fun b _ h2 => hb.block b (by omega)

/-- The numbers k, k+1, .. of length n. -/
def marks (k : Int) (n : Nat) : List Int := (List.range n).map fun i : Nat => k + (i : Int)
theorem marks_length (k : Int) (n : Nat) : (marks k n).length = n := by simp [marks]
theorem marks_getD (k : Int) (n i : Nat) (h : i < n) : (marks k n).getD i 0 = k + i := by simp [marks, List.getD_eq_getElem?_getD, h]

/-- Numbers of the call's own: a slice value that owns its block, or has no elements. -/
def OwnInts (w : World) (g : Nat) (n : Nat) : Prop := ∃ m f, n ≤ m ∧ w.rowIs g 3 m f

set_option maxHeartbeats 400000 in
set_option maxRecDepth 100000 in
theorem markIntS_any (A : Option Addr) (g c n m : Nat) (q : Int) (w : World) (hl : n ≤ 1048576) (h0 : 0 ≤ q) (h1 : q ≤ 1099511627776) (f0 : Nat → Value) (hA : 0 < n → A = some ⟨g, 0, none⟩) (hnm : n ≤ m) (h : 0 < n → w.rowIs g 3 m f0) :
    Calls Tryz.prog 14 #[.slice A n c, .int .i64 q] w fun e w' => e = .returned (.int .i64 (q + n)) ∧ Within g (g + 1) w w' ∧ (0 < n → w'.rowIs g 3 m (fun i => if i < n then .int .i64 (q + i) else f0 i)) := by
  have hl' : (n : Int) ≤ 1048576 := by omega
  have HI := Lib.hid h
  have HA := Lib.hid hA
  clear h hA
  go_enter Tryz.func14, Tryz.ntmps14
  go_wp2
  go_loopw [1, 5] (fun z i wr => ∃ k : Nat, k ≤ n ∧ i = .int .i64 k ∧ z = .int .i64 (q + k) ∧ Within g (g + 1) w wr ∧ (0 < n → wr.rowIs g 3 m (fun i => if i < k then .int .i64 (q + i) else f0 i))) (fun _ i _ => n - (intOf i).toNat)
  case atStart => exact ⟨0, by omega, rfl, by simp, Within.refl _ _ _, fun hn => (HI.out hn).congr fun i hi => by simp⟩
  case round =>
    obtain ⟨k, hk, rfl, rfl, hb, hr⟩ := hrel
    have HR := Lib.hid hr
    clear hr
    by_cases hlt : k < n
    · obtain rfl := HA.out (by omega)
      have hz1 := (HR.out (by omega)).cell (show k < m by omega)
      have hz2 := (HR.out (by omega)).frozen k
      go_wp2
      go_roundw
      case rel =>
        refine ⟨k + 1, by omega, by go_num, by go_num, hb.set (Nat.le_refl _) (by simp) _, fun hn => ((HR.out hn).set k _).congr fun j hj => ?_⟩
        by_cases e : j = k
        · subst e; rw [if_pos rfl, if_pos (by omega)]
        · rw [if_neg e]
          by_cases e2 : j < k
          · rw [if_pos e2, if_pos (by omega)]
          · rw [if_neg e2, if_neg (by omega)]
      case measure => simp [intOf]; omega
    · obtain rfl : k = n := by omega
      go_wp2
      go_ret
      exact ⟨rfl, hb, HR.out⟩

set_option maxHeartbeats 400000 in
set_option maxRecDepth 100000 in
theorem heldIntS_any (lo hi : Nat) (A : Option Addr) (c n : Nat) (q : Int) (w : World) (hl : n ≤ 1048576) (h0 : 0 ≤ q) (h1 : q ≤ 1099511627776) (h : Ints w lo hi A (marks q n)) :
    Calls Tryz.prog 49 #[.slice A n c, .int .i64 q] w fun e w' => e = .returned (.int .i64 (q + n)) ∧ w = w' := by
  have hl' : (n : Int) ≤ 1048576 := by omega
  have HI := Lib.hid h
  clear h
  go_enter Tryz.func49, Tryz.ntmps49
  go_wp2
  go_loop [1, 5] (fun z i => ∃ k : Nat, k ≤ n ∧ i = .int .i64 k ∧ z = .int .i64 (q + k)) (fun _ i => n - (intOf i).toNat)
  case atStart => exact ⟨0, by omega, rfl, by simp⟩
  case round =>
    obtain ⟨k, hk, rfl, rfl⟩ := hrel
    by_cases hlt : k < n
    · obtain ⟨b, off, rfl, _, _, hc⟩ := HI.out.at_ (show k < (marks q n).length by rw [marks_length]; exact hlt)
      rw [marks_getD _ _ _ hlt] at hc
      go_wp2
      go_round
      case rel => exact ⟨k + 1, by omega, by go_num, by go_num⟩
      case measure => simp [intOf]; omega
    · obtain rfl : k = n := by omega
      go_wp2
      go_ret
      exact ⟨rfl, rfl⟩
end Go.Proofs.YtimlpdcambmcjaaGreat

namespace Go.Proofs.YtimlpdcambmcjaaGreat
open Go.ChangeShapes Go.WideShapes Go.ChangeAt Go.RowKit
set_option linter.unusedVariables false
set_option linter.unusedSimpArgs false

set_option maxRecDepth 100000 in
theorem laidOut : laidOutB Tryz.prog = true := by kernel_rfl

section
variable {H : Type} {enc : TypeId × Value → H} {P : Program}
/-- What was read behind a call that turned no old memory reads as it did. -/
theorem all_stay (hl : laidOutB P = true) {W W' : World} (hb : Below W.heap.size W W') {sp : Nat → Bool} :
    ∀ (ts : List TypeId) (vs : List Value) (ds : List (DataW H)) (ps : List MemPlace), (∀ t ∈ ts, P.readableRec t = true ∧ t < P.types.size) → (∀ p ∈ ps, p.block < W.heap.size ∧ sp p.block = true) →
      DataW.TrodAll enc P W 0 (fun _ => true) true ts vs ds ps → DataW.TrodAll enc P W' 0 sp true ts vs ds ps
  | [], [], [], _, _, _, h => h
  | t :: ts, v :: vs, d :: ds, _, hr, hp, h => by
    obtain ⟨p, q, h1, h2, rfl⟩ := h
    have hr1 := hr t (by simp)
    exact ⟨p, q, WideElems.Trod_stays hl hr1.1 hr1.2 h1 (fun x hx => hb.same (hp x (by simp [hx])).1) (fun x hx => (hp x (by simp [hx])).2),
      all_stay hl hb ts vs ds q (fun t ht => hr t (by simp [ht])) (fun x hx => hp x (by simp [hx])) h2, rfl⟩
  | [], _ :: _, _, _, _, _, h => by simp [DataW.TrodAll] at h
  | [], [], _ :: _, _, _, _, h => by simp [DataW.TrodAll] at h
  | _ :: _, [], _, _, _, _, h => by simp [DataW.TrodAll] at h
  | _ :: _, _ :: _, [], _, _, _, h => by simp [DataW.TrodAll] at h

/-- The end of a law: it returns true, and the arguments read as they did. -/
theorem law_post (hl : laidOutB P = true) {f : Func} {s : ChangeSpec} {tb : TypeId} {W W' : World} {args : Array Value} {ds gs : List (DataW H)} {before : List MemPlace}
    (hv : s.vars = []) (ht : f.resultTypes = #[tb]) (hbool : P.underlying tb = some .bool) (hr : ∀ t ∈ f.params.toList, P.readableRec t = true ∧ t < P.types.size)
    (hW : DataW.Whole enc P f.params.toList s.vars false W args.toList ds gs before) (hfn : s.fn H (ds ++ gs) = { results := [.lit (.bool true)], args := ds }) (hb : Below W.heap.size W W') :
    s.post enc P f false true false false W args (.bool true) W' := by
  have hlt : ∀ p ∈ before, p.block < W.heap.size := fun p hp => hW.lt p hp
  have hW0 := hW
  obtain ⟨p, q, hA, hV, rfl, _, _⟩ := hW0
  rw [hv] at hV
  obtain ⟨rfl, rfl⟩ := trodVars_none hV
  refine ⟨ds, [], p ++ [], [], p, [], hW, ?_, ?_, ?_, hb.frame _ |> World.keptBut_mono fun x hx => hx, fun h => by cases h⟩
  · rw [hfn, ht]
    exact ⟨[], [], shut_bool hbool true, rfl, rfl⟩
  · rw [hfn]
    exact all_stay hl hb _ _ _ _ hr (fun x hx => ⟨hlt x (by simp [hx]), by simpa using hlt x (by simp [hx])⟩) hA
  · rw [hfn, hv]
    exact rfl
end

section
variable {H : Type} {enc : TypeId × Value → H} {P : Program} {w : World}
/-- A list of numbers that came in. -/
theorem open_nums {t e : TypeId} {fuel : Nat} {v : Value} {x : DataW H × List MemPlace} (ht : P.underlying t = some (.slice e)) (he : P.underlying e = some (.int .i64)) (hc : P.cellsOf e = 1)
    (h : DataW.trod enc P w 0 (fun _ => true) true fuel t [v] = some x) : ∃ (A : Option Addr) (c : Nat) (xs : List Int), v = .slice A xs.length c ∧ xs.length ≤ c ∧ c ≤ maxLen ∧ Ints w 0 w.heap.size A xs := by
  rcases open_ints ht he hc h with ⟨hv, _⟩ | ⟨a, len, cap, zs, hv, _, hl, hm, hz, _, hcell, _⟩
  · injection hv with hv
    exact ⟨none, 0, [], hv, Nat.le_refl _, by unfold maxLen; omega, fun h => absurd rfl h⟩
  · injection hv with hv
    have hlen : (zs.take len).length = len := by rw [List.length_take]; simp at hz; omega
    refine ⟨some a, cap, zs.take len, by rw [hlen]; exact hv, by rw [hlen]; exact hl, hm, fun hne => ?_⟩
    have hpos : 0 < len := by
      rcases Nat.eq_zero_or_pos len with h0 | h0
      · subst h0; simp at hne
      · exact h0
    simp only [if_true] at hz
    obtain ⟨b, off, spot⟩ := a
    have hc0 := hcell 0 (by omega)
    have hspot : spot = none := by simpa [Addr.add] using World.cell?_spot hc0
    subst hspot
    have hb := World.block_lt_of_cell? w _ hc0
    refine ⟨b, off, rfl, by omega, by simpa [Addr.add] using hb, fun k hk => ?_⟩
    have hk' : k < len := by rw [hlen] at hk; exact hk
    have := hcell k (by omega)
    have e : (⟨b, off, none⟩ : Addr).add k = ⟨b, off + k, none⟩ := by unfold Addr.add; split <;> simp_all
    rw [e] at this
    rw [this]
    simp [List.getD_eq_getElem?_getD, List.getElem?_take, hk']
theorem open_numsT {r : Reach} {base : Nat} {t e : TypeId} {v : Value} {d : DataW H} {p : List MemPlace} (ht : P.underlying t = some (.slice e)) (he : P.underlying e = some (.int .i64)) (hc : P.cellsOf e = 1)
    (hv : Value.okWide P w r base t v) (h : DataW.Trod enc P w 0 (fun _ => true) true t v d p) : ∃ (A : Option Addr) (c : Nat) (xs : List Int), v = .slice A xs.length c ∧ xs.length ≤ c ∧ c ≤ maxLen ∧ Ints w 0 w.heap.size A xs := by
  obtain ⟨fuel, hf⟩ := h
  obtain ⟨A, l, c, rfl⟩ := okWide_slice ht hv
  exact open_nums ht he hc hf
end
end Go.Proofs.YtimlpdcambmcjaaGreat

namespace Go.Proofs.YtimlpdcambmcjaaGreat
open Go.ChangeShapes Go.WideShapes Go.ChangeAt Go.RowKit
set_option linter.unusedVariables false
set_option linter.unusedSimpArgs false

/-- At the address A lie the facts fs, all of it in blocks from lo to below hi. -/
def Facts (w : World) (lo hi : Nat) (A : Option Addr) (fs : List (Int × List Int)) : Prop :=
  fs ≠ [] → ∃ b off, A = some ⟨b, off, none⟩ ∧ lo ≤ b ∧ b < hi ∧ ∀ k, k < fs.length → ∃ B c, w.cell? ⟨b, off + k * 2, none⟩ = some (.int .i64 (fs.getD k (0, [])).1) ∧
    w.cell? ⟨b, off + k * 2 + 1, none⟩ = some (.slice B (fs.getD k (0, [])).2.length c) ∧ (fs.getD k (0, [])).2.length ≤ c ∧ c ≤ maxLen ∧ Ints w lo hi B (fs.getD k (0, [])).2
theorem Facts.at_ {w : World} {lo hi : Nat} {A : Option Addr} {fs : List (Int × List Int)} (h : Facts w lo hi A fs) {k : Nat} (hk : k < fs.length) {r : Int} {xs : List Int} (hf : fs.getD k (0, []) = (r, xs)) :
    ∃ b off B c, A = some ⟨b, off, none⟩ ∧ lo ≤ b ∧ b < hi ∧ w.cell? ⟨b, off + k * 2, none⟩ = some (.int .i64 r) ∧
    w.cell? ⟨b, off + k * 2 + 1, none⟩ = some (.slice B xs.length c) ∧ xs.length ≤ c ∧ c ≤ maxLen ∧ Ints w lo hi B xs := by
  obtain ⟨b, off, h1, h2, h3, h4⟩ := h (by rintro rfl; simp at hk)
  obtain ⟨B, c, h5, h6, h7, h8, h9⟩ := h4 k hk
  rw [hf] at h5 h6 h7 h9
  exact ⟨b, off, B, c, h1, h2, h3, h5, h6, h7, h8, h9⟩
theorem Facts.keep {w w' : World} {lo hi : Nat} {A : Option Addr} {fs : List (Int × List Int)} (h : Facts w lo hi A fs) (hk : ∀ b, lo ≤ b → b < hi → w'.heap[b]? = w.heap[b]?) : Facts w' lo hi A fs := fun hx => by
  obtain ⟨b, off, h1, h2, h3, h4⟩ := h hx
  refine ⟨b, off, h1, h2, h3, fun k hkx => ?_⟩
  obtain ⟨B, c, h5, h6, h7, h8, h9⟩ := h4 k hkx
  exact ⟨B, c, (World.cell?_of_block (w := w) (a := ⟨b, off + k * 2, none⟩) (hk b h2 h3)).trans h5, (World.cell?_of_block (w := w) (a := ⟨b, off + k * 2 + 1, none⟩) (hk b h2 h3)).trans h6, h7, h8, h9.keep hk⟩
theorem Facts.below {w w' : World} {lo hi N : Nat} {A : Option Addr} {fs : List (Int × List Int)} (h : Facts w lo hi A fs) (hb : Below N w w') (hN : hi ≤ N) : Facts w' lo hi A fs :=
  h.keep fun b _ h2 => hb.block b (by omega)
theorem Facts.within {w w' : World} {lo hi l h' : Nat} {A : Option Addr} {fs : List (Int × List Int)} (h : Facts w lo hi A fs) (hb : Within l h' w w') (hN : hi ≤ l ∨ h' ≤ lo) : Facts w' lo hi A fs :=
  h.keep fun b _ h2 => hb.block b (by omega)
theorem Facts.mono {w : World} {lo hi lo' hi' : Nat} {A : Option Addr} {fs : List (Int × List Int)} (h : Facts w lo hi A fs) (h1 : lo' ≤ lo) (h2 : hi ≤ hi') : Facts w lo' hi' A fs := fun hx => by
  obtain ⟨b, off, e, h3, h4, h5⟩ := h hx
  refine ⟨b, off, e, by omega, by omega, fun k hk => ?_⟩
  obtain ⟨B, c, g1, g2, g3, g4, g5⟩ := h5 k hk
  exact ⟨B, c, g1, g2, g3, g4, g5.mono h1 h2⟩

section
variable {H : Type} {enc : TypeId × Value → H} {w : World}
set_option maxRecDepth 100000 in
theorem open_factT {r : Reach} {base : Nat} {v : Value} {d : DataW H} {p : List MemPlace} (hv : Value.okWide Tryz.prog w r base 73 v) (h : DataW.Trod enc Tryz.prog w 0 (fun _ => true) true 73 v d p) :
    ∃ (f : Int × List Int) (A : Option Addr) (c : Nat), v = .agg #[.int .i64 f.1, .slice A f.2.length c] ∧ f.2.length ≤ c ∧ c ≤ maxLen ∧ Ints w 0 w.heap.size A f.2 := by
  obtain ⟨v0, v1, y0, y1, n, rfl, _, _, h0, h1⟩ := Go.Joins.open_agg2 Tryz.underlying73 (by kernel_rfl) (by kernel_rfl) hv h
  obtain ⟨z, hz, _, _⟩ := DataW.trod_int Tryz.underlying3 h0
  injection hz with hz
  obtain ⟨A, c, xs, hv1, hl, hm, hi⟩ := open_nums (v := v1) Tryz.underlying22 Tryz.underlying3 (by kernel_rfl) h1
  subst hz hv1
  exact ⟨(z, xs), A, c, rfl, hl, hm, hi⟩
set_option maxRecDepth 100000 in
theorem open_facts_at {fuel : Nat} {v : Value} {x : DataW H × List MemPlace} (hf : DataW.trod enc Tryz.prog w 0 (fun _ => true) true fuel 39 [v] = some x) :
    ∃ (A : Option Addr) (c : Nat) (fs : List (Int × List Int)), v = .slice A fs.length c ∧ fs.length ≤ c ∧ c ≤ maxLen ∧ Facts w 0 w.heap.size A fs := by
  have hC : Tryz.prog.cellsOf 73 = 2 := by kernel_rfl
  rcases Go.Deep.open_slice Tryz.underlying39 hf with ⟨hv, _⟩ | ⟨a, len, cap, m, n, D, Pl, hv, _, hl, hm, hmm, _, hi⟩
  · injection hv with hv
    exact ⟨none, 0, [], hv, Nat.le_refl _, by unfold maxLen; omega, fun h => absurd rfl h⟩
  · injection hv with hv
    rw [hC] at hi
    simp only [if_true] at hmm
    have each : ∀ i, i < len → ∃ x : Int × List Int, ∃ B c', w.cell? (a.add (i * 2)) = some (.int .i64 x.1) ∧ w.cell? (a.add (i * 2 + 1)) = some (.slice B x.2.length c') ∧ x.2.length ≤ c' ∧ c' ≤ maxLen ∧ Ints w 0 w.heap.size B x.2 := by
      intro i hil
      obtain ⟨cs, hc, ht⟩ := hi i (by omega)
      obtain ⟨_, hcl, hat⟩ := World.cells?_some hc
      obtain ⟨y0, y1, n', _, _, h0, h1⟩ := trod_struct2 Tryz.underlying73 ht
      have k0 : Tryz.prog.cellsOf 3 = 1 := by kernel_rfl
      have k1 : Tryz.prog.cellsOf 22 = 1 := by kernel_rfl
      have e0 := hat 0 (by omega)
      have e1 := hat 1 (by omega)
      match cs, hcl with
      | [u0, u1], _ =>
        simp only [k0, k1] at h0 h1
        simp at h0 h1 e0 e1
        obtain ⟨z, hz, _, _⟩ := DataW.trod_int Tryz.underlying3 h0
        injection hz with hz
        obtain ⟨B, c', xs, hv1, hl, hm, hii⟩ := open_nums (v := u1) Tryz.underlying22 Tryz.underlying3 k0 h1
        subst hz hv1
        refine ⟨(z, xs), B, c', ?_, ?_, hl, hm, hii⟩
        · exact e0
        · rw [Go.Deep.add_add] at e1; exact e1
    obtain ⟨f, hfx⟩ := Go.Deep.choose_lt each
    have hlen : ((List.range len).map f).length = len := by simp
    refine ⟨some a, cap, (List.range len).map f, by rw [hlen]; exact hv, by rw [hlen]; exact hl, hm, fun hne => ?_⟩
    have hpos : 0 < len := by
      rcases Nat.eq_zero_or_pos len with h0 | h0
      · subst h0; simp at hne
      · exact h0
    obtain ⟨b, off, spot⟩ := a
    obtain ⟨_, _, hc0, _⟩ := hfx 0 hpos
    have hspot : spot = none := by simpa [Addr.add] using World.cell?_spot hc0
    subst hspot
    have hb := World.block_lt_of_cell? w _ hc0
    refine ⟨b, off, rfl, by omega, by simpa [Addr.add] using hb, fun k hk => ?_⟩
    have hk' : k < len := by rw [hlen] at hk; exact hk
    have e : ∀ j, (⟨b, off, none⟩ : Addr).add j = ⟨b, off + j, none⟩ := fun j => by unfold Addr.add; split <;> simp_all
    obtain ⟨B, c', g1, g2, g3, g4, g5⟩ := hfx k hk'
    rw [e] at g1 g2
    have hx : ((List.range len).map f).getD k (0, []) = f k := by simp [List.getD_eq_getElem?_getD, hk']
    rw [hx]
    exact ⟨B, c', g1, g2, g3, g4, g5⟩
set_option maxRecDepth 100000 in
theorem open_factsT {r : Reach} {base : Nat} {v : Value} {d : DataW H} {p : List MemPlace} (hv : Value.okWide Tryz.prog w r base 39 v) (h : DataW.Trod enc Tryz.prog w 0 (fun _ => true) true 39 v d p) :
    ∃ (A : Option Addr) (c : Nat) (fs : List (Int × List Int)), v = .slice A fs.length c ∧ fs.length ≤ c ∧ c ≤ maxLen ∧ Facts w 0 w.heap.size A fs := by
  obtain ⟨fuel, hf⟩ := h
  obtain ⟨A, l, c, rfl⟩ := okWide_slice Tryz.underlying39 hv
  exact open_facts_at hf
end
end Go.Proofs.YtimlpdcambmcjaaGreat
