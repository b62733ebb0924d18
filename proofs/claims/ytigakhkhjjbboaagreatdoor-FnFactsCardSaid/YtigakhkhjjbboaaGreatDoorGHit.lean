/- What the model's l2Cut, l2Num and l2Rel answer. Conditions: none beyond each theorem's own. What the model's l2Call answers. Conditions: none beyond each theorem's own. The texts of facts, parsed both ways: plain facts. Conditions: none beyond each theorem's own. -/
import Derived.Test.YtigakhkhjjbboaaGreatDoorGPf
import Derived.Lib.QuietBelow

namespace Go.Proofs.YtigakhkhjjbboaaGreatDoor
open Go.ChangeShapes Go.WideShapes Go.ChangeAt Go.RowKit Go.Sort
set_option linter.unusedVariables false
set_option linter.unusedSimpArgs false

/-- The words before byte i, and the one that is under way. -/
def cutS (s : ByteArray) : Nat → List ByteArray × ByteArray
  | 0 => ([], ⟨#[]⟩)
  | i + 1 => if bn s i = 44 then ((cutS s i).1 ++ [(cutS s i).2], ⟨#[]⟩) else ((cutS s i).1, (cutS s i).2 ++ s.extract i (i + 1))
def cutW (s : ByteArray) : List ByteArray := (cutS s s.size).1 ++ [(cutS s s.size).2]
theorem cutS_hit {s : ByteArray} {i : Nat} (h : bn s i = 44) : cutS s (i + 1) = ((cutS s i).1 ++ [(cutS s i).2], ⟨#[]⟩) := if_pos h
theorem cutS_miss {s : ByteArray} {i : Nat} (h : ¬ bn s i = 44) : cutS s (i + 1) = ((cutS s i).1, (cutS s i).2 ++ s.extract i (i + 1)) := if_neg h
theorem ba_size_app (a b : ByteArray) : (a ++ b).size = a.size + b.size := ByteArray.size_append
theorem cutS_le (s : ByteArray) : ∀ i, (cutS s i).1.length ≤ i ∧ (cutS s i).2.size ≤ i ∧ ∀ x ∈ (cutS s i).1, x.size ≤ i
  | 0 => ⟨Nat.le_refl _, Nat.le_refl _, fun x h => by simp [cutS] at h⟩
  | i + 1 => by
    obtain ⟨h1, h2, h3⟩ := cutS_le s i
    by_cases e : bn s i = 44
    · rw [cutS_hit e]
      refine ⟨by simp; omega, by show (0 : Nat) ≤ _; omega, fun x h => ?_⟩
      rcases List.mem_append.1 h with h | h
      · have := h3 x h; omega
      · simp at h; subst h; omega
    · rw [cutS_miss e]
      refine ⟨by show (cutS s i).1.length ≤ _; omega, ?_, fun x h => by have := h3 x h; omega⟩
      show ((cutS s i).2 ++ s.extract i (i + 1)).size ≤ _
      rw [ba_size_app, ByteArray.size_extract]; omega
theorem cutW_len (s : ByteArray) : (cutW s).length ≤ s.size + 1 := by
  have := (cutS_le s s.size).1
  unfold cutW
  simp; omega
theorem cutW_size {s x : ByteArray} (h : x ∈ cutW s) : x.size ≤ s.size := by
  obtain ⟨h1, h2, h3⟩ := cutS_le s s.size
  rcases List.mem_append.1 h with h | h
  · exact h3 x h
  · simp at h; subst h; exact h2

/-- Texts behind a slice's address. -/
def StrsAt (w : World) (A : Option Addr) (ws : List ByteArray) : Prop :=
  ws ≠ [] → ∃ g, A = some ⟨g, 0, none⟩ ∧ g < w.heap.size ∧ ∀ k, k < ws.length → w.cell? ⟨g, k, none⟩ = some (.string (ws.getD k ⟨#[]⟩))
theorem StrsAt.step {w w' : World} {A : Option Addr} {ws : List ByteArray} (h : StrsAt w A ws) {N : Nat} (hN : w.heap.size ≤ N) (d : Below N w w') : StrsAt w' A ws := fun hx => by
  obtain ⟨g, hA, hg, hc⟩ := h hx
  exact ⟨g, hA, by have := d.size; omega, fun k hk => (d.cell (p := ⟨g, k, none⟩) (show g < N by omega)).trans (hc k hk)⟩
theorem strs_of_row {w : World} {base n c : Nat} {e : TypeId} {A : Option Addr} {ws : List ByteArray} (h : w.ownsRow base e 1 (.slice A n c) n (ws.map Value.string)) : n = ws.length ∧ StrsAt w A ws := by
  have hl : n = ws.length := by have := h.1; simp at this; omega
  refine ⟨hl, fun hx => ?_⟩
  have hp := List.length_pos_iff.2 hx
  rcases h.2 with ⟨_, h0⟩ | ⟨g, cap, cur, hv, hb, hg, hnc, hcm, hcs, htk⟩
  · omega
  · injection hv with e1 e2 e3
    subst e1
    have hlt : g < w.heap.size := by
      rcases Nat.lt_or_ge g w.heap.size with hlt | hge
      · exact hlt
      · rw [Array.getElem?_eq_none hge] at hg; cases hg
    refine ⟨g, rfl, hlt, fun k hk => ?_⟩
    rw [cell_of_row w g k _ _ (0, 0) hg]
    have h1 : (cur.toList.take (n * 1))[k]? = (ws.map Value.string)[k]? := by rw [htk]
    rw [Nat.mul_one, List.getElem?_take_of_lt (by omega), List.getElem?_map, List.getElem?_eq_getElem hk, Array.getElem?_toList] at h1
    rw [h1]
    simp [List.getD_eq_getElem?_getD, hk]

set_option maxRecDepth 100000 in
set_option maxHeartbeats 1000000 in
theorem l2Cut_any (s : ByteArray) (hs : s.size ≤ 1048576) (w : World) :
    Calls Tryz.prog 65 #[.string s, .int .u8 44] w fun e w' => ∃ A c, e = .returned (.slice A (cutW s).length c) ∧ StrsAt w' A (cutW s) ∧ Below w.heap.size w w' := by
  obtain ⟨i0, hi, hz0, hz1, hz2⟩ := info_parts string_info
  have hs' : (s.size : Int) ≤ 1048576 := by omega
  go_enter Tryz.func65, Tryz.ntmps65
  go_wp2
  go_loopw [5, 6, 7] (fun v cur i wr => ∃ (k : Nat) (A : Option Addr) (c : Nat), k ≤ s.size ∧ i = .int .i64 k ∧ v = .slice A (cutS s k).1.length c ∧ cur = .string (cutS s k).2 ∧ wr.ownsRow w.heap.size 9 1 (.slice A (cutS s k).1.length c) (cutS s k).1.length ((cutS s k).1.map Value.string) ∧ Below w.heap.size w wr) (fun _ _ i _ => s.size - (intOf i).toNat)
  case atStart => exact ⟨0, _, _, by omega, rfl, rfl, rfl, World.ownsRow_lit _ #[] 0 (Nat.le_refl _) (by unfold maxLen; omega) rfl, below_alloc _ _⟩
  case round =>
    obtain ⟨k, A, c, hk, rfl, rfl, rfl, hown, hb⟩ := hrel
    obtain ⟨n1, n2, _⟩ := cutS_le s k
    have hbs := hb.size
    by_cases hlt : k < s.size
    · have hbn := bn_le s k
      have hg := get_bn s k hlt
      by_cases h44 : bn s k = 44
      · have P := Lib.hid (cutS_hit h44)
        generalize cutS s k = p at hown n1 n2 P ⊢
        obtain ⟨ws, cur⟩ := p
        simp only at hown n1 n2 P
        have h44' : ((bn s k : Nat) : Int) = 44 := by omega
        rw [h44] at hg
        clear h44
        go_wp2_with (at_builtin; refine wpList_push rfl _ _ _ 9 rfl i0 Tryz.underlying85 hi (.string ⟨#[]⟩) 16 hz0 hz1 hz2 rfl (by omega) rfl rfl rfl hown hb hbs (by omega) ?_; intro v' w' hown' hb' hsz'; obtain ⟨A', c', rfl⟩ := ownsRow_form hown')
        go_roundw
        case rel =>
          refine ⟨k + 1, A', c', by omega, by go_num, ?_, ?_, ?_, hb'⟩
          · rw [P.out, List.length_append]; rfl
          · rw [P.out]
          · rw [P.out, List.length_append, List.map_append]; exact hown'
        case measure => simp [intOf]; omega
      · have P := Lib.hid (cutS_miss h44)
        generalize cutS s k = p at hown n1 n2 P ⊢
        obtain ⟨ws, cur⟩ := p
        simp only at hown n1 n2 P
        have h44' : ¬ ((bn s k : Nat) : Int) = 44 := by omega
        have esz : (s.extract k (k + 1)).size ≤ 1 := by rw [ByteArray.size_extract]; omega
        clear h44
        go_wp2
        go_roundw
        case rel =>
          refine ⟨k + 1, A, c, by omega, by go_num, ?_, ?_, ?_, hb⟩
          · rw [P.out]
          · rw [P.out]
          · rw [P.out]; exact hown
        case measure => simp [intOf]; omega
    · obtain rfl : k = s.size := by omega
      have hw : cutW s = (cutS s s.size).1 ++ [(cutS s s.size).2] := rfl
      have HW := Lib.hid hw
      clear hw
      generalize cutS s s.size = p at hown n1 n2 HW ⊢
      obtain ⟨ws, cur⟩ := p
      simp only at hown n1 n2 HW
      go_wp2_with (at_builtin; refine wpList_push rfl _ _ _ 9 rfl i0 Tryz.underlying85 hi (.string ⟨#[]⟩) 16 hz0 hz1 hz2 rfl (by omega) rfl rfl rfl hown hb hbs (by omega) ?_; intro v' w' hown' hb' hsz'; obtain ⟨A', c', rfl⟩ := ownsRow_form hown')
      go_ret
      rw [HW.out]
      have hown2 : w'.ownsRow w.heap.size 9 1 (.slice A' (ws.length + 1) c') (ws.length + 1) ((ws ++ [cur]).map Value.string) := by rw [List.map_append]; exact hown'
      exact ⟨A', c', by rw [List.length_append]; rfl, (strs_of_row hown2).2, hb'⟩

/-- What l2Num answers. -/
noncomputable def numS (x : ByteArray) : Int := if parB x = true then parN x else -100000
set_option maxRecDepth 100000 in
set_option maxHeartbeats 400000 in
theorem l2Num_any (x : ByteArray) (hx : x.size ≤ 1048576) (w : World) :
    Calls Tryz.prog 99 #[.string x] w fun e w' => e = .returned (.int .i64 (numS x)) ∧ Below w.heap.size w w' := by
  have XI := Lib.hid (spec_ParseInt x hx w)
  cases hp : parB x
  · have E := Lib.hid (show numS x = -100000 by unfold numS; rw [hp]; rfl)
    rw [hp] at XI
    generalize parN x = n at XI
    rw [E.out]
    go_enter Tryz.func99, Tryz.ntmps99
    go_wp2_with (go_at_call 122; refine XI.out.mono ?_; rintro e u ⟨rfl, d⟩)
    go_ret
    exact ⟨rfl, d⟩
  · have E := Lib.hid (show numS x = parN x by unfold numS; rw [hp]; rfl)
    rw [hp] at XI
    generalize parN x = n at XI E
    rw [E.out]
    go_enter Tryz.func99, Tryz.ntmps99
    go_wp2_with (go_at_call 122; refine XI.out.mono ?_; rintro e u ⟨rfl, d⟩)
    go_ret
    exact ⟨rfl, d⟩
/-- What l2Rel answers. -/
noncomputable def relS (h : ByteArray) : Int := if 2 ≤ h.size ∧ bn h 0 = 114 then numS (h.extract 1 h.size) else -1
set_option maxRecDepth 100000 in
set_option maxHeartbeats 400000 in
theorem l2Rel_any (h : ByteArray) (hx : h.size ≤ 1048576) (w : World) :
    Calls Tryz.prog 101 #[.string h] w fun e w' => e = .returned (.int .i64 (relS h)) ∧ Below w.heap.size w w' := by
  have hs' : (h.size : Int) ≤ 1048576 := by omega
  by_cases h2 : 2 ≤ h.size
  · have hb := bn_le h 0
    have hg := get_bn h 0 (by omega)
    have hsz : (h.extract 1 h.size).size ≤ 1048576 := by rw [ByteArray.size_extract]; omega
    by_cases h0 : bn h 0 = 114
    · have E := Lib.hid (show relS h = numS (h.extract 1 h.size) from if_pos ⟨h2, h0⟩)
      rw [E.out]
      have h0' : ((bn h 0 : Nat) : Int) = 114 := by omega
      rw [h0] at hg
      have XN := Lib.hid (l2Num_any (h.extract 1 h.size) hsz)
      clear h0
      go_enter Tryz.func101, Tryz.ntmps101
      go_wp2_with (go_at_call 99; refine (XN.out _).mono ?_; rintro e u ⟨rfl, d⟩)
      go_ret
      exact ⟨rfl, d⟩
    · have E := Lib.hid (show relS h = -1 from if_neg fun e => h0 e.2)
      rw [E.out]
      have h0' : ¬ ((bn h 0 : Nat) : Int) = 114 := by omega
      have h0'' : (((bn h 0 : Nat) : Int) != 114) = true := by simp; omega
      go_enter Tryz.func101, Tryz.ntmps101
      go_wp2
      go_ret
      exact ⟨rfl, Below.refl _ _⟩
  · have E := Lib.hid (show relS h = -1 from if_neg fun e => h2 e.1)
    rw [E.out]
    go_enter Tryz.func101, Tryz.ntmps101
    go_wp2
    go_ret
    exact ⟨rfl, Below.refl _ _⟩
end Go.Proofs.YtigakhkhjjbboaaGreatDoor

namespace Go.Proofs.YtigakhkhjjbboaaGreatDoor
open Go.ChangeShapes Go.WideShapes Go.ChangeAt Go.RowKit Go.Sort
set_option linter.unusedVariables false
set_option linter.unusedSimpArgs false

def isCall (s : ByteArray) (i : Nat) : Prop := i < s.size ∧ bn s i = 40 ∧ bn s (s.size - 1) = 41
def CallIs (s H : ByteArray) (ws : List ByteArray) : Prop :=
  (∃ i, isCall s i ∧ (∀ j, j < i → ¬ isCall s j) ∧ H = s.extract 0 i ∧ ws = cutW (s.extract (i + 1) (s.size - 1))) ∨ ((∀ i, ¬ isCall s i) ∧ H = ⟨#[]⟩ ∧ ws = [])
theorem CallIs.le {s H : ByteArray} {ws : List ByteArray} (h : CallIs s H ws) : H.size ≤ s.size ∧ ws.length ≤ s.size + 1 ∧ ∀ x ∈ ws, x.size ≤ s.size := by
  rcases h with ⟨i, h1, h2, rfl, rfl⟩ | ⟨h1, rfl, rfl⟩
  · have e : (s.extract (i + 1) (s.size - 1)).size ≤ s.size := by rw [ByteArray.size_extract]; omega
    refine ⟨by rw [ByteArray.size_extract]; omega, by have := cutW_len (s.extract (i + 1) (s.size - 1)); omega, fun x hx => by have := cutW_size hx; omega⟩
  · exact ⟨by show 0 ≤ _; omega, by simp, fun x h => by simp at h⟩

def CallOut (w : World) (s : ByteArray) (e : Ending) (w' : World) : Prop := ∃ H ws A c, e = .returned (.tuple #[.string H, .slice A ws.length c]) ∧ StrsAt w' A ws ∧ Below w.heap.size w w' ∧ CallIs s H ws

set_option maxRecDepth 100000 in
set_option maxHeartbeats 1000000 in
theorem l2Call_any (s : ByteArray) (hs : s.size ≤ 1048576) (w : World) :
    Calls Tryz.prog 100 #[.string s] w (CallOut w s) := by
  have hs' : (s.size : Int) ≤ 1048576 := by omega
  go_enter Tryz.func100, Tryz.ntmps100
  go_wp2
  go_loop [4] (fun i => ∃ k : Nat, k ≤ s.size ∧ i = .int .i64 k ∧ Hid (∀ j, j < k → ¬ isCall s j)) (fun i => s.size - (intOf i).toNat)
  case atStart => exact ⟨0, by omega, rfl, Lib.hid (fun j hj => by omega)⟩
  case round =>
    obtain ⟨k, hk, rfl, hno⟩ := hrel
    by_cases hlt : k < s.size
    · have hbn := bn_le s k
      have hg := get_bn s k hlt
      by_cases h40 : bn s k = 40
      · have hbn2 := bn_le s (s.size - 1)
        have hg2 := get_bn s (s.size - 1) (by omega)
        by_cases h41 : bn s (s.size - 1) = 41
        · have hks : k + 1 ≤ s.size - 1 := by
            rcases Nat.lt_or_ge k (s.size - 1) with h | h
            · omega
            · have : k = s.size - 1 := by omega
              rw [this] at h40
              omega
          have IC := Lib.hid (show isCall s k from ⟨hlt, h40, h41⟩)
          have HK := Lib.hid hks
          have hks' : (k : Int) + 1 ≤ (s.size : Int) - 1 := by omega
          have CU := Lib.hid (l2Cut_any (s.extract (k + 1) (s.size - 1)) (by rw [ByteArray.size_extract]; omega))
          rw [h40] at hg
          rw [h41] at hg2
          have e0 : (0 : Int) ≤ (k : Int) := by omega
          have e1 : (k : Int) ≤ (s.size : Int) := by omega
          have e2 : IntKind.i64.wrap ((k : Int) + 1) = (k : Int) + 1 := IntWalk.i64_in _ ⟨by omega, by omega⟩
          have e3 : IntKind.i64.wrap ((s.size : Int) - 1) = (s.size : Int) - 1 := IntWalk.i64_in _ ⟨by omega, by omega⟩
          have e4 : (0 : Int) ≤ (k : Int) + 1 := by omega
          have e5 : (s.size : Int) - 1 ≤ (s.size : Int) := by omega
          have e6 : (0 : Int) ≤ (s.size : Int) - 1 := by omega
          have e7 : ((k : Int) + 1).toNat = k + 1 := by omega
          have e8 : ((s.size : Int) - 1).toNat = s.size - 1 := by omega
          clear h40 h41 hks
          go_wp2
          go_region_held3 (fun _ => True)
            (first
              | trivial)
            (first
              | (go_at_call 65
                 refine (CU.out _).mono ?_
                 rintro e u ⟨A, c, rfl, hst, d⟩
                 have d' : Below w.heap.size w u := by first | exact d | exact und d
                 have HST := Lib.hid hst
                 clear hst d))
          go_wp2
          go_ret2
          refine ⟨s.extract 0 k, cutW (s.extract (k + 1) (s.size - 1)), A, c, rfl, HST.out, d', .inl ⟨k, IC.out, hno.out, rfl, rfl⟩⟩
        · have NC := Lib.hid (show ¬ isCall s k from fun h => h41 h.2.2)
          have h41' : ¬ ((bn s (s.size - 1) : Nat) : Int) = 41 := by omega
          rw [h40] at hg
          clear h40 h41
          go_wp2
          go_round
          case rel => exact ⟨k + 1, by omega, by go_num, Lib.hid (fun j hj => by
            by_cases e : j = k
            · rw [e]; exact NC.out
            · exact hno.out j (by omega))⟩
          case measure => simp [intOf]; omega
      · have NC := Lib.hid (show ¬ isCall s k from fun h => h40 h.2.1)
        have h40' : ¬ ((bn s k : Nat) : Int) = 40 := by omega
        clear h40
        go_wp2
        go_round
        case rel => exact ⟨k + 1, by omega, by go_num, Lib.hid (fun j hj => by
          by_cases e : j = k
          · rw [e]; exact NC.out
          · exact hno.out j (by omega))⟩
        case measure => simp [intOf]; omega
    · have NC := Lib.hid (show ∀ i, ¬ isCall s i from fun i h => hno.out i (by have := h.1; omega) h)
      go_wp2
      go_ret2
      exact ⟨⟨#[]⟩, [], _, 0, rfl, fun h => absurd rfl h, below_alloc _ _, .inr ⟨NC.out, rfl, rfl⟩⟩
end Go.Proofs.YtigakhkhjjbboaaGreatDoor

namespace Go.Proofs.YtigakhkhjjbboaaGreatDoor
open Go.ChangeShapes Go.WideShapes Go.ChangeAt Go.RowKit Go.Sort
set_option linter.unusedVariables false
set_option linter.unusedSimpArgs false

theorem digits10 {d : Int} (h0 : 0 ≤ d) (h1 : d ≤ 9) : d = 0 ∨ d = 1 ∨ d = 2 ∨ d = 3 ∨ d = 4 ∨ d = 5 ∨ d = 6 ∨ d = 7 ∨ d = 8 ∨ d = 9 := by omega
theorem dg_ne {d : Int} (h0 : 0 ≤ d) (h1 : d ≤ 9) : dg d ≠ 40 ∧ dg d ≠ 44 := by
  rcases digits10 h0 h1 with rfl | rfl | rfl | rfl | rfl | rfl | rfl | rfl | rfl | rfl <;> decide
theorem pN_digit {d : Int} (h0 : 0 ≤ d) (h1 : d ≤ 9) : pN ⟨#[dg d]⟩ = d ∧ pk ⟨#[dg d]⟩ (min (⟨#[dg d]⟩ : ByteArray).size 11) ≤ 9 := by
  rcases digits10 h0 h1 with rfl | rfl | rfl | rfl | rfl | rfl | rfl | rfl | rfl | rfl <;> decide +kernel
theorem par_digit {d : Int} (h0 : 0 ≤ d) (h1 : d ≤ 9) : parB ⟨#[dg d]⟩ = true ∧ parN ⟨#[dg d]⟩ = d := by
  obtain ⟨e1, e2⟩ := pN_digit h0 h1
  have h := par_yes (s := ⟨#[dg d]⟩) ⟨e2, by show 1 ≤ 10; omega, by rw [e1]; exact fmt_digit h0 h1⟩
  exact ⟨h.1, by rw [h.2, e1]⟩
theorem numS_digit {d : Int} (h0 : 0 ≤ d) (h1 : d ≤ 9) : numS ⟨#[dg d]⟩ = d := by
  obtain ⟨e1, e2⟩ := par_digit h0 h1
  unfold numS
  rw [if_pos e1, e2]

theorem ba_ext {a b : ByteArray} (h : a.data.toList = b.data.toList) : a = b := by
  apply ByteArray.ext; apply Array.toList_inj.1; exact h
theorem extract_list (L : List UInt8) (a b : Nat) : (⟨L.toArray⟩ : ByteArray).extract a b = ⟨((L.drop a).take (b - a)).toArray⟩ := by
  apply ba_ext
  rw [Lib.extract_data]
theorem bn_mk (L : List UInt8) (j : Nat) : bn ⟨L.toArray⟩ j = ((L[j]?).map UInt8.toNat).getD 0 := bn_eq _ _
theorem size_mk (L : List UInt8) : (⟨L.toArray⟩ : ByteArray).size = L.length := by rw [size_eq']

def wrd (xs : List Int) : List ByteArray := xs.map fun x => ⟨#[dg x]⟩
theorem all_cons {x : Int} {xs : List Int} (h : allB 0 9 (x :: xs) = true) : 0 ≤ x ∧ x ≤ 9 ∧ allB 0 9 xs = true := by
  unfold allB at h ⊢
  rw [List.all_cons, Bool.and_eq_true] at h
  have := h.1
  simp [inB] at this
  exact ⟨this.1, this.2, h.2⟩
theorem words_comma : ∀ xs : List Int, xs ≠ [] → allB 0 9 xs = true → wordsI ⟨(commaL xs).toArray⟩ = wrd xs
  | [], h, _ => absurd rfl h
  | [x], _, h => by
    obtain ⟨h0, h1, _⟩ := all_cons h
    have hne := (dg_ne h0 h1).2
    have hi : Lib.indexB ⟨(commaL [x]).toArray⟩ ⟨#[44]⟩ = -1 := by
      show Lib.index [dg x] [44] = -1
      rw [Lib.index_one]
      simp [Lib.indexByte, hne]
    unfold wordsI
    rw [Lib.splitB_miss _ _ _ _ hi]
    rfl
  | x :: y :: r, _, h => by
    obtain ⟨h0, h1, h2⟩ := all_cons h
    have ih := words_comma (y :: r) (by simp) h2
    have hne := (dg_ne h0 h1).2
    have hi : Lib.indexB ⟨(commaL (x :: y :: r)).toArray⟩ ⟨#[44]⟩ = ((1 : Nat) : Int) := by
      show Lib.index (dg x :: 44 :: commaL (y :: r)) [44] = 1
      rw [Lib.index_one]
      simp [Lib.indexByte, hne]
    have hx : (⟨(commaL (x :: y :: r)).toArray⟩ : ByteArray).extract (1 + (⟨#[44]⟩ : ByteArray).size) (⟨(commaL (x :: y :: r)).toArray⟩ : ByteArray).size = ⟨(commaL (y :: r)).toArray⟩ := by
      rw [size_mk, extract_list]
      show (⟨(((dg x :: 44 :: commaL (y :: r)).drop 2).take ((dg x :: 44 :: commaL (y :: r)).length - 2)).toArray⟩ : ByteArray) = _
      rw [List.take_of_length_le (by simp)]
      rfl
    have hx0 : (⟨(commaL (x :: y :: r)).toArray⟩ : ByteArray).extract 0 (1 + 0) = ⟨#[dg x]⟩ := by
      rw [extract_list]; rfl
    unfold wordsI at ih ⊢
    rw [Lib.countB_hit _ _ 1 (by decide) hi, hx, Nat.add_comm, Lib.splitB_hit _ _ _ _ 1 hi, hx, hx0, ih]
    rfl

theorem num_words {xs : List Int} (h : allB 0 9 xs = true) : allN (wrd xs) ∧ nums (wrd xs) = xs ∧ (wrd xs).map numS = xs := by
  induction xs with
  | nil => exact ⟨fun x hx => by simp [wrd] at hx, rfl, rfl⟩
  | cons x xs ih =>
    obtain ⟨h0, h1, h2⟩ := all_cons h
    obtain ⟨i1, i2, i3⟩ := ih h2
    obtain ⟨e1, e2⟩ := par_digit h0 h1
    refine ⟨fun y hy => ?_, ?_, ?_⟩
    · rcases List.mem_cons.1 (show y ∈ (⟨#[dg x]⟩ : ByteArray) :: wrd xs from hy) with rfl | hy
      · exact e1
      · exact i1 y hy
    · show parN ⟨#[dg x]⟩ :: nums (wrd xs) = _
      rw [e2, i2]
    · show numS ⟨#[dg x]⟩ :: (wrd xs).map numS = _
      rw [numS_digit h0 h1, i3]

theorem fmtOk_parts {r : Int} {xs : List Int} (h : fmtOk r xs = true) : 0 ≤ r ∧ r ≤ 2 ∧ xs ≠ [] ∧ allB 0 9 xs = true := by
  unfold fmtOk at h
  rw [Bool.and_eq_true, Bool.and_eq_true] at h
  obtain ⟨⟨h1, h2⟩, h3⟩ := h
  have h1' : 0 ≤ r ∧ r ≤ 2 := by simpa [inB] using h1
  have h2' : 1 ≤ (xs.length : Int) ∧ (xs.length : Int) ≤ 3 := by simpa [inB] using h2
  refine ⟨h1'.1, h1'.2, fun e => ?_, h3⟩
  subst e
  simp at h2'

theorem hit_impl {r : Int} {xs : List Int} {s : ByteArray} (h : fmtOk r xs = true) (e : fmtF r xs = s) : numI s = ⟨#[dg r]⟩ ∧ bodyI s = ⟨(commaL xs).toArray⟩ := by
  obtain ⟨h0, h1, h2, h3⟩ := fmtOk_parts h
  have hne := (dg_ne h0 (show r ≤ 9 by omega)).1
  rw [fmtF_yes h] at e
  have ed : s.data.toList = 114 :: dg r :: 40 :: (commaL xs ++ [41]) := by subst e; simp
  have hi : Lib.index s.data.toList [40] = 2 := by
    rw [ed, Lib.index_one]
    simp [Lib.indexByte, hne]
  have hc : Lib.cut s.data.toList [40] = ([114, dg r], commaL xs ++ [41], true) := by
    unfold Lib.cut
    rw [hi, if_pos (by decide), ed]
    rfl
  have e1 : hdI s = ⟨#[114, dg r]⟩ := by unfold hdI; rw [hc]
  have e2 : tlI s = ⟨(commaL xs ++ [41]).toArray⟩ := by unfold tlI; rw [hc]
  refine ⟨?_, ?_⟩
  · unfold numI
    rw [e1]
    rfl
  · unfold bodyI
    rw [e2]
    have hs : Lib.hasSuffix (commaL xs ++ [41]) [41] = true := by
      unfold Lib.hasSuffix
      rw [List.isSuffixOf_iff_suffix]
      exact List.suffix_append _ _
    show (⟨(Lib.trimSuffix (commaL xs ++ [41]) [41]).toArray⟩ : ByteArray) = _
    unfold Lib.trimSuffix
    rw [if_pos hs]
    congr 2
    rw [List.length_append, List.length_singleton, Nat.add_sub_cancel, List.take_left']
    rfl

/-- One byte more. -/
def stepC (p : List ByteArray × ByteArray) (b : UInt8) : List ByteArray × ByteArray := if b = 44 then (p.1 ++ [p.2], ⟨#[]⟩) else (p.1, p.2 ++ ⟨#[b]⟩)
theorem cutS_fold (L : List UInt8) : ∀ i, i ≤ L.length → cutS ⟨L.toArray⟩ i = (L.take i).foldl stepC ([], ⟨#[]⟩)
  | 0, _ => rfl
  | i + 1, h => by
    have ih := cutS_fold L i (by omega)
    have hb : bn ⟨L.toArray⟩ i = (L[i]'(by omega)).toNat := by rw [bn_mk, List.getElem?_eq_getElem (by omega)]; rfl
    rw [List.take_succ_eq_append_getElem (by omega), List.foldl_append, ← ih]
    show _ = stepC _ _
    by_cases e : L[i]'(by omega) = 44
    · rw [cutS_hit (by rw [hb, e]; rfl)]
      unfold stepC
      rw [if_pos e]
    · rw [cutS_miss (by rw [hb]; intro h; exact e (UInt8.toNat_inj.1 h))]
      unfold stepC
      rw [if_neg e, extract_list]
      have : (L.drop i).take (i + 1 - i) = [L[i]'(by omega)] := by
        rw [show i + 1 - i = 1 by omega, List.drop_eq_getElem_cons (by omega)]
        rfl
      rw [this]
theorem fold_comma : ∀ (xs : List Int) (acc : List ByteArray), xs ≠ [] → allB 0 9 xs = true → ((commaL xs).foldl stepC (acc, ⟨#[]⟩)).1 ++ [((commaL xs).foldl stepC (acc, ⟨#[]⟩)).2] = acc ++ wrd xs
  | [], _, h, _ => absurd rfl h
  | [x], acc, _, h => by
    obtain ⟨h0, h1, _⟩ := all_cons h
    have hne := (dg_ne h0 h1).2
    show (stepC (acc, ⟨#[]⟩) (dg x)).1 ++ [(stepC (acc, ⟨#[]⟩) (dg x)).2] = _
    unfold stepC
    rw [if_neg hne]
    rfl
  | x :: y :: r, acc, _, h => by
    obtain ⟨h0, h1, h2⟩ := all_cons h
    have hne := (dg_ne h0 h1).2
    have ih := fold_comma (y :: r) (acc ++ [⟨#[dg x]⟩]) (by simp) h2
    have e : stepC (stepC (acc, ⟨#[]⟩) (dg x)) 44 = (acc ++ [⟨#[dg x]⟩], ⟨#[]⟩) := by
      unfold stepC
      rw [if_neg hne]
      rfl
    show ((commaL (y :: r)).foldl stepC (stepC (stepC (acc, ⟨#[]⟩) (dg x)) 44)).1 ++ [((commaL (y :: r)).foldl stepC (stepC (stepC (acc, ⟨#[]⟩) (dg x)) 44)).2] = _
    rw [e, ih, List.append_assoc]
    rfl
theorem cutW_comma {xs : List Int} (h : xs ≠ []) (h2 : allB 0 9 xs = true) : cutW ⟨(commaL xs).toArray⟩ = wrd xs := by
  have e := fold_comma xs [] h h2
  unfold cutW
  rw [size_mk, cutS_fold _ _ (Nat.le_refl _), List.take_length, e]
  rfl

theorem hit_spec {r : Int} {xs : List Int} {s H : ByteArray} {ws : List ByteArray} (h : fmtOk r xs = true) (e : fmtF r xs = s) (hc : CallIs s H ws) : relS H = r ∧ ws.map numS = xs := by
  obtain ⟨h0, h1, h2, h3⟩ := fmtOk_parts h
  have hne := (dg_ne h0 (show r ≤ 9 by omega)).1
  rw [fmtF_yes h] at e
  have ed : s = ⟨(114 :: dg r :: 40 :: (commaL xs ++ [41])).toArray⟩ := by rw [← e]; simp
  have hsz : s.size = (commaL xs).length + 4 := by rw [ed, size_mk]; simp
  have b0 : bn s 0 = 114 := by rw [ed, bn_mk]; rfl
  have b1 : bn s 1 ≠ 40 := by
    rw [ed, bn_mk]
    show (dg r).toNat ≠ 40
    intro h
    exact hne (UInt8.toNat_inj.1 h)
  have b2 : bn s 2 = 40 := by rw [ed, bn_mk]; rfl
  have bl : bn s (s.size - 1) = 41 := by
    rw [hsz, ed, bn_mk, show (commaL xs).length + 4 - 1 = (commaL xs).length + 3 by omega]
    simp [List.getElem?_append_right]
  have h2c : isCall s 2 := ⟨by omega, b2, bl⟩
  rcases hc with ⟨i, hi, hno, rfl, rfl⟩ | ⟨hno, _⟩
  · have hi2 : i = 2 := by
      have a : ¬ 2 < i := fun h => hno 2 h h2c
      have hb := hi.2.1
      rcases (show i = 0 ∨ i = 1 ∨ i = 2 by omega) with rfl | rfl | rfl
      · omega
      · exact absurd hb b1
      · rfl
    subst hi2
    have eH : s.extract 0 2 = ⟨#[114, dg r]⟩ := by rw [ed, extract_list]; rfl
    have eW : s.extract (2 + 1) (s.size - 1) = ⟨(commaL xs).toArray⟩ := by
      rw [hsz, ed, extract_list]
      show (⟨((commaL xs ++ [41]).take ((commaL xs).length + 4 - 1 - 3)).toArray⟩ : ByteArray) = _
      rw [show (commaL xs).length + 4 - 1 - 3 = (commaL xs).length by omega, List.take_left']
      rfl
    rw [eH, eW, cutW_comma h2 h3]
    refine ⟨?_, (num_words h3).2.2⟩
    unfold relS
    rw [if_pos ⟨by show 2 ≤ 2; omega, rfl⟩]
    show numS ((⟨[114, dg r].toArray⟩ : ByteArray).extract 1 2) = r
    rw [extract_list]
    exact numS_digit h0 (by omega)
  · exact absurd h2c (hno 2)

theorem prs_of {S : List Int} {r : Int} {xs : List Int} {s : ByteArray} (h : factB S r xs = true) (e : fmtF r xs = s) : prs S s = (r, xs, true) := by
  have hf := (factB_len h).2
  obtain ⟨h0, h1, h2, h3⟩ := fmtOk_parts hf
  obtain ⟨e1, e2⟩ := hit_impl hf e
  obtain ⟨p1, p2⟩ := par_digit h0 (show r ≤ 9 by omega)
  obtain ⟨n1, n2, _⟩ := num_words h3
  have ew : wordsI (bodyI s) = wrd xs := by rw [e2, words_comma xs h2 h3]
  have ok : okPI S s := ⟨by rw [e1]; exact p1, by rw [ew]; exact n1, by rw [e1, p2, ew, n2]; exact h, by rw [e1, p2, ew, n2]; exact e⟩
  rw [prs_yes ok, e1, p2, ew, n2]
theorem prs_not {S : List Int} {s H : ByteArray} {ws : List ByteArray} (hc : CallIs s H ws) (h : ¬ (factB S (relS H) (ws.map numS) = true ∧ fmtF (relS H) (ws.map numS) = s)) : prs S s = (0, [], false) := by
  refine prs_no fun ok => h ?_
  obtain ⟨e1, e2⟩ := hit_spec (factB_len ok.2.2.1).2 ok.2.2.2 hc
  rw [e1, e2]
  exact ⟨ok.2.2.1, ok.2.2.2⟩
end Go.Proofs.YtigakhkhjjbboaaGreatDoor
