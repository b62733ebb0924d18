/- What the functions on a query's head and on queries answer. Conditions: none beyond each theorem's own. -/
import Derived.Test.YtimlpdcambmcjaaQL
namespace Go.Proofs.Ytimlpdcambmcjaa
open Go.ChangeShapes Go.WideShapes Go.ChangeAt Go.RowKit Go.Sort
open Go.Proofs.Ytimlpdcambmcjaa.atom
set_option linter.unusedVariables false
set_option linter.unusedSimpArgs false

/-- Are all numbers of the head among vs? -/
def inAll (vs hs : List Int) : Bool := hs.all fun x => decide (x ∈ vs)
theorem inAll_take (vs hs : List Int) (k : Nat) (hk : k < hs.length) : inAll vs (hs.take (k + 1)) = (inAll vs (hs.take k) && decide (hs.getD k 0 ∈ vs)) := by
  unfold inAll
  rw [List.take_succ_eq_append_getElem hk, List.all_append]
  simp [List.getD_eq_getElem?_getD, hk]
theorem inAll_not (vs hs : List Int) (k : Nat) (hk : k < hs.length) (h : decide (hs.getD k 0 ∈ vs) = false) : inAll vs hs = false := by
  unfold inAll
  rw [List.all_eq_false]
  refine ⟨hs[k], List.getElem_mem _, ?_⟩
  have : hs.getD k 0 = hs[k] := by simp [List.getD_eq_getElem?_getD, hk]
  rw [this] at h
  simp [h]
/-- Is hs a head for the atoms l? -/
def headB (hs : List Int) (l : FL) : Bool := decide (hs.length ≤ 3) && inAll (wl 10 17 (terms l)) hs

/-- A place of x in v, or a negative number. -/
def IdxOut (w : World) (v : List Int) (x : Int) (e : Ending) (w' : World) : Prop := (∃ n : Int, e = .returned (.int .i64 n) ∧ decide (0 ≤ n) = decide (x ∈ v)) ∧ w = w'

set_option maxRecDepth 100000 in
set_option maxHeartbeats 400000 in
theorem index_any (lo hi : Nat) (A : Option Addr) (c : Nat) (v : List Int) (x : Int) (hl : v.length ≤ 1048576) (w : World) (h : Ints w lo hi A v) :
    Calls Try.prog 80 #[.slice A v.length c, .int .i64 x] w (IdxOut w v x) := by
  have HI := Lib.hid h
  clear h
  have hl' : (v.length : Int) ≤ 1048576 := by omega
  go_enter Try.func80, Try.ntmps80
  go_wp2
  go_loop [5, 8] (fun _ i => ∃ k : Nat, k ≤ v.length ∧ i = .int .i64 k ∧ Hid (x ∉ v.take k)) (fun _ i => v.length - (intOf i).toNat)
  case atStart => exact ⟨0, by omega, rfl, Lib.hid (by simp)⟩
  case round =>
    obtain ⟨k, hk, rfl, ha⟩ := hrel
    by_cases hlt : k < v.length
    · obtain ⟨b, off, rfl, _, _, hc⟩ := HI.out.at_ hlt
      generalize hz : v.getD k 0 = z at hc
      have HT := Lib.hid (takeI v hlt hz)
      have HM := Lib.hid (show z ∈ v by subst hz; rw [List.getD_eq_getElem?_getD, List.getElem?_eq_getElem hlt]; exact List.getElem_mem _)
      clear hz
      by_cases he : x = z
      · subst he
        go_wp2
        go_ret
        exact ⟨⟨_, rfl, by rw [decide_eq_true HM.out]; simp⟩, rfl⟩
      · have d1 : (x == z) = false := by simpa using he
        go_wp2
        go_round
        case rel => exact ⟨k + 1, by omega, by go_num, Lib.hid (by rw [HT.out]; simp only [List.mem_append, List.mem_singleton, not_or]; exact ⟨ha.out, he⟩)⟩
        case measure => simp [intOf]; omega
    · obtain rfl : k = v.length := by omega
      go_wp2
      go_ret
      exact ⟨⟨_, rfl, by have := ha.out; rw [take_all] at this; rw [decide_eq_false this]; rfl⟩, rfl⟩
set_option maxRecDepth 100000 in
theorem contains_any (lo hi : Nat) (A : Option Addr) (c : Nat) (v : List Int) (x : Int) (hl : v.length ≤ 1048576) (w : World) (h : Ints w lo hi A v) :
    Calls Try.prog 58 #[.slice A v.length c, .int .i64 x] w fun e w' => e = .returned (.bool (decide (x ∈ v))) ∧ w = w' := by
  have XI := Lib.hid (index_any lo hi A c v x hl w h)
  clear h
  go_enter Try.func58, Try.ntmps58
  go_wp2_with fail
  refine XI.out.mono ?_
  rintro e w1 ⟨⟨n, rfl, hn⟩, rfl⟩
  have HN := Lib.hid hn
  clear hn
  go_wp2
  go_ret
  exact ⟨ret_bool HN.out, rfl⟩

set_option maxRecDepth 100000 in
set_option maxHeartbeats 1000000 in
theorem isHead_any (H A : Option Addr) (ch c : Nat) (hs : List Int) (l : FL) (hh : hs.length ≤ 1048577) (hz : szF l ≤ 1048576) (w : World) (h : RI w H hs) (h' : RF w A l) :
    Calls Try.prog 55 #[.agg #[.slice H hs.length ch, .slice A l.length c]] w fun e w' => e = .returned (.bool (headB hs l)) ∧ Below w.heap.size w w' := by
  have hh' : (hs.length : Int) ≤ 1048577 := by omega
  have B0 := Lib.hid (below_alloc w (.cells #[.slice H hs.length ch, .slice A l.length c] 31))
  have HI := Lib.hid h
  have XV := Lib.hid ((impl_VarsOf H A ch c hs l hz _ (h'.step B0.out)).mono fun _ _ h => h.toG)
  have X0 := Lib.hid (Box.new w #[.slice H hs.length ch, .slice A l.length c] 31)
  have HV := Lib.hid (wl_len 10 17 (terms l))
  clear h h'
  by_cases h3 : hs.length ≤ 3
  · have h3' : (hs.length : Int) ≤ 3 := by omega
    have E := Lib.hid (show headB hs l = inAll (wl 10 17 (terms l)) hs by simp [headB, h3])
    rw [E.out]
    have hv : (wl 10 17 (terms l)).length ≤ 1048576 := by have := HV.out; omega
    generalize wl 10 17 (terms l) = vs at XV hv
    clear HV E
    go_enter Try.func55, Try.ntmps55
    go_wp2_with fail
    refine XV.out.mono ?_
    rintro e w1 ⟨A1, c1, rfl, hg, d⟩
    have B1 := Lib.hid (step B0.out d)
    have X1 := X0.out.step d
    have x0 := X1.cell 0
    simp only [List.getElem?_toArray, List.getElem?_cons_zero, List.getElem?_cons_succ] at x0
    have HG := Lib.hid hg.ri
    have HI1 := Lib.hid (HI.out.step B1.out)
    clear hg d X1
    go_wp2
    go_loop [5, 15] (fun _ i => ∃ k : Nat, k ≤ hs.length ∧ i = .int .i64 k ∧ Hid (inAll vs (hs.take k) = true)) (fun _ i => hs.length - (intOf i).toNat)
    case atStart => exact ⟨0, by omega, rfl, Lib.hid rfl⟩
    case round =>
      obtain ⟨k, hk, rfl, ha⟩ := hrel
      by_cases hlt : k < hs.length
      · obtain ⟨b, off, rfl, _, hc⟩ := HI1.out.at_ hlt
        generalize hx : hs.getD k 0 = x at hc
        have HX := Lib.hid hx
        have XC := Lib.hid (contains_any 0 _ A1 c1 vs x hv w1 HG.out)
        clear hx
        by_cases hm : decide (x ∈ vs) = true
        · have HM := Lib.hid hm
          clear hm
          go_wp2_with fail
          refine XC.out.mono ?_
          rintro e w2 ⟨he, rfl⟩
          rw [HM.out] at he
          subst he
          go_wp2
          go_round
          case rel => exact ⟨k + 1, by omega, by go_num, Lib.hid (by rw [inAll_take _ _ _ hlt, ha.out, HX.out, HM.out]; rfl)⟩
          case measure => simp [intOf]; omega
        · have HM := Lib.hid (show decide (x ∈ vs) = false by simpa using hm)
          clear hm
          go_wp2_with fail
          refine XC.out.mono ?_
          rintro e w2 ⟨he, rfl⟩
          rw [HM.out] at he
          subst he
          go_wp2
          go_ret
          exact ⟨ret_bool (inAll_not _ _ k hlt (by rw [HX.out]; exact HM.out)).symm, B1.out⟩
      · obtain rfl : k = hs.length := by omega
        go_wp2
        go_ret
        exact ⟨ret_bool (by have := ha.out; rw [take_all] at this; rw [this]), B1.out⟩
  · have h3' : 3 < (hs.length : Int) := by omega
    have E := Lib.hid (show headB hs l = false by simp [headB, h3])
    rw [E.out]
    go_enter Try.func55, Try.ntmps55
    go_wp2
    go_ret
    exact ⟨rfl, B0.out⟩
end Go.Proofs.Ytimlpdcambmcjaa
