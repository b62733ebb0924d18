/- What the two functions ValueOf answer. Conditions: none beyond each theorem's own. -/
import Derived.Test.YtighalbnpgmdfaaGreatBnd
import Derived.Lib.QuietBelow
namespace Go.Proofs.YtighalbnpgmdfaaGreat
open Go.ChangeShapes Go.WideShapes Go.ChangeAt Go.RowKit Go.Sort
set_option linter.unusedVariables false
set_option linter.unusedSimpArgs false

theorem takeI' (v : List Int) {k : Nat} (h : k < v.length) {x : Int} (hx : v.getD k 0 = x) : v.take (k + 1) = v.take k ++ [x] := by
  rw [List.take_succ_eq_append_getElem h]
  have : v[k] = v.getD k 0 := by simp [List.getD_eq_getElem?_getD, h]
  rw [this, hx]
theorem idx_ge : ∀ (hs : List Int) (t : Int) (k : Nat), k ≤ hs.length → t ∉ hs.take k → k ≤ hs.idxOf t
  | _, _, 0, _, _ => Nat.zero_le _
  | [], _, k + 1, h, _ => by simp at h
  | x :: xs, t, k + 1, h, hn => by
    rw [List.take_succ_cons] at hn
    have h1 : ¬ t = x := fun e => hn (by rw [e]; exact List.mem_cons_self)
    have h2 := idx_ge xs t k (by simpa using h) (fun hm => hn (List.mem_cons_of_mem _ hm))
    rw [List.idxOf_cons]
    have e : (x == t) = false := by simpa using fun e => h1 e.symm
    rw [e]
    simp only [cond_false]
    omega
theorem idx_at : ∀ (hs : List Int) (t : Int) (k : Nat), k < hs.length → t ∉ hs.take k → hs.getD k 0 = t → hs.idxOf t = k
  | [], _, k, h, _, _ => by simp at h
  | x :: xs, t, 0, _, _, he => by
    have : x = t := by simpa using he
    subst this
    simp
  | x :: xs, t, k + 1, h, hn, he => by
    rw [List.take_succ_cons] at hn
    have h1 : ¬ t = x := fun e => hn (by rw [e]; exact List.mem_cons_self)
    have h2 := idx_at xs t k (by simpa using h) (fun hm => hn (List.mem_cons_of_mem _ hm)) (by simpa using he)
    rw [List.idxOf_cons]
    have e : (x == t) = false := by simpa using fun e => h1 e.symm
    rw [e]
    simp only [cond_false]
    omega

/-- What a term is worth under the binding of hs to l. -/
def bval (hs l : List Int) (t : Int) : Int :=
  if inB t 10 17 = true then (if hs.idxOf t < hs.length ∧ hs.idxOf t < l.length then l.getD (hs.idxOf t) 0 else -1) else t
theorem bval_no {hs l : List Int} {t : Int} (h : inB t 10 17 = false) : bval hs l t = t := by simp [bval, h]
theorem bval_at {hs l : List Int} {t : Int} (h : inB t 10 17 = true) {k : Nat} (h1 : k < hs.length) (h2 : k < l.length) (h3 : t ∉ hs.take k) (h4 : hs.getD k 0 = t) : bval hs l t = l.getD k 0 := by
  have e := idx_at hs t k h1 h3 h4
  simp [bval, h, e, h1, h2]
theorem bval_none {hs l : List Int} {t : Int} (h : inB t 10 17 = true) {k : Nat} (h1 : k ≤ hs.length) (h3 : t ∉ hs.take k) (h2 : hs.length ≤ k ∨ l.length ≤ k) : bval hs l t = -1 := by
  have e := idx_ge hs t k h1 h3
  have : ¬ (hs.idxOf t < hs.length ∧ hs.idxOf t < l.length) := by omega
  simp [bval, h, this]
theorem notMem_snoc {hs : List Int} {t x : Int} {k : Nat} (hk : k < hs.length) (h3 : t ∉ hs.take k) (hx : hs.getD k 0 = x) (hne : ¬ x = t) : t ∉ hs.take (k + 1) := by
  rw [takeI' hs hk hx]
  simp only [List.mem_append, List.mem_singleton, not_or]
  exact ⟨h3, fun e => hne e.symm⟩

/-- The first place of x in v, or -1. -/
def idxI (v : List Int) (x : Int) : Int := if v.idxOf x < v.length then (v.idxOf x : Int) else -1
set_option maxRecDepth 100000 in
set_option maxHeartbeats 400000 in
theorem index_at (lo hi : Nat) (A : Option Addr) (c : Nat) (v : List Int) (x : Int) (hl : v.length ≤ 1048576) (w : World) (h : Ints w lo hi A v) :
    Calls Tryz.prog 116 #[.slice A v.length c, .int .i64 x] w fun e w' => e = .returned (.int .i64 (idxI v x)) ∧ w = w' := by
  have HI := Lib.hid h
  clear h
  have hl' : (v.length : Int) ≤ 1048576 := by omega
  go_enter Tryz.func116, Tryz.ntmps116
  go_wp2
  go_loop [5, 8] (fun _ i => ∃ k : Nat, k ≤ v.length ∧ i = .int .i64 k ∧ Hid (x ∉ v.take k)) (fun _ i => v.length - (intOf i).toNat)
  case atStart => exact ⟨0, by omega, rfl, Lib.hid (by simp)⟩
  case round =>
    obtain ⟨k, hk, rfl, ha⟩ := hrel
    by_cases hlt : k < v.length
    · obtain ⟨b, off, rfl, _, _, hc⟩ := HI.out.at_ hlt
      generalize hz : v.getD k 0 = z at hc
      have HZ := Lib.hid hz
      clear hz
      by_cases he : x = z
      · subst he
        go_wp2
        go_ret
        exact ⟨ret_int (by have := idx_at v x k hlt ha.out HZ.out; simp [idxI, this, hlt]), rfl⟩
      · have d1 : (x == z) = false := by simpa using he
        go_wp2
        go_round
        case rel => exact ⟨k + 1, by omega, by go_num, Lib.hid (notMem_snoc hlt ha.out HZ.out (fun e => he e.symm))⟩
        case measure => simp [intOf]; omega
    · obtain rfl : k = v.length := by omega
      go_wp2
      go_ret
      exact ⟨ret_int (by have := idx_ge v x v.length (Nat.le_refl _) ha.out; simp [idxI, show ¬ v.idxOf x < v.length by omega]), rfl⟩
end Go.Proofs.YtighalbnpgmdfaaGreat
