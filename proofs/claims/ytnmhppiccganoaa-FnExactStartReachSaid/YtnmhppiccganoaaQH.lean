/- What the functions on a query's head and on queries answer. Conditions: none beyond each theorem's own. -/
import Derived.Test.YtnmhppiccganoaaQL
namespace Go.Proofs.Ytnmhppiccganoaa
open Go.ChangeShapes Go.WideShapes Go.ChangeAt Go.RowKit Go.Sort
open Go.Proofs.Ytnmhppiccganoaa.atom
set_option linter.unusedVariables false
set_option linter.unusedSimpArgs false

/-- Are all numbers of the head among vs? -/
def inAll (vs hs : List Int) : Bool := hs.all fun x => decide (x ∈ vs)
theorem inAll_take (vs hs : List Int) (k : Nat) (hk : k < hs.length) : inAll vs (hs.take (k + 1)) = (inAll vs (hs.take k) && decide (hs.getD k 0 ∈ vs)) := by
  unfold inAll
  rw [List.take_succ_eq_append_getElem hk, List.all_append]
  simp [List.getD_eq_getElem?_getD, hk]
theorem inAll_not (vs hs : List Int) (k : Nat) (hk : k < hs.length) (h : decide (hs.getD k 0 ∈ vs) = false) : inAll vs hs = false := by
  unfold inAll
  rw [List.all_eq_false]
  refine ⟨hs[k], List.getElem_mem _, ?_⟩
  have : hs.getD k 0 = hs[k] := by simp [List.getD_eq_getElem?_getD, hk]
  rw [this] at h
  simp [h]
/-- Is hs a head for the atoms l? -/
def headB (hs : List Int) (l : FL) : Bool := decide (hs.length ≤ 3) && inAll (wl 10 17 (terms l)) hs

/-- A place of x in v, or a negative number. -/
def IdxOut (w : World) (v : List Int) (x : Int) (e : Ending) (w' : World) : Prop := (∃ n : Int, e = .returned (.int .i64 n) ∧ decide (0 ≤ n) = decide (x ∈ v)) ∧ w = w'

set_option maxRecDepth 100000 in
set_option maxHeartbeats 400000 in
theorem index_any (lo hi : Nat) (A : Option Addr) (c : Nat) (v : List Int) (x : Int) (hl : v.length ≤ 1048576) (w : World) (h : Ints w lo hi A v) :
    Calls Try.prog 52 #[.slice A v.length c, .int .i64 x] w (IdxOut w v x) := by
  have HI := Lib.hid h
  clear h
  have hl' : (v.length : Int) ≤ 1048576 := by omega
  go_enter Try.func52, Try.ntmps52
  go_wp2
  go_loop [5, 8] (fun _ i => ∃ k : Nat, k ≤ v.length ∧ i = .int .i64 k ∧ Hid (x ∉ v.take k)) (fun _ i => v.length - (intOf i).toNat)
  case atStart => exact ⟨0, by omega, rfl, Lib.hid (by simp)⟩
  case round =>
    obtain ⟨k, hk, rfl, ha⟩ := hrel
    by_cases hlt : k < v.length
    · obtain ⟨b, off, rfl, _, _, hc⟩ := HI.out.at_ hlt
      generalize hz : v.getD k 0 = z at hc
      have HT := Lib.hid (takeI v hlt hz)
      have HM := Lib.hid (show z ∈ v by subst hz; rw [List.getD_eq_getElem?_getD, List.getElem?_eq_getElem hlt]; exact List.getElem_mem _)
      clear hz
      by_cases he : x = z
      · subst he
        go_wp2
        go_ret
        exact ⟨⟨_, rfl, by rw [decide_eq_true HM.out]; simp⟩, rfl⟩
      · have d1 : (x == z) = false := by simpa using he
        go_wp2
        go_round
        case rel => exact ⟨k + 1, by omega, by go_num, Lib.hid (by rw [HT.out]; simp only [List.mem_append, List.mem_singleton, not_or]; exact ⟨ha.out, he⟩)⟩
        case measure => simp [intOf]; omega
    · obtain rfl : k = v.length := by omega
      go_wp2
      go_ret
      exact ⟨⟨_, rfl, by have := ha.out; rw [take_all] at this; rw [decide_eq_false this]; rfl⟩, rfl⟩
set_option maxRecDepth 100000 in
theorem contains_any (lo hi : Nat) (A : Option Addr) (c : Nat) (v : List Int) (x : Int) (hl : v.length ≤ 1048576) (w : World) (h : Ints w lo hi A v) :
    Calls Try.prog 39 #[.slice A v.length c, .int .i64 x] w fun e w' => e = .returned (.bool (decide (x ∈ v))) ∧ w = w' := by
  have XI := Lib.hid (index_any lo hi A c v x hl w h)
  clear h
  go_enter Try.func39, Try.ntmps39
  go_wp2_with fail
  refine XI.out.mono ?_
  rintro e w1 ⟨⟨n, rfl, hn⟩, rfl⟩
  have HN := Lib.hid hn
  clear hn
  go_wp2
  go_ret
  exact ⟨ret_bool HN.out, rfl⟩

end Go.Proofs.Ytnmhppiccganoaa
