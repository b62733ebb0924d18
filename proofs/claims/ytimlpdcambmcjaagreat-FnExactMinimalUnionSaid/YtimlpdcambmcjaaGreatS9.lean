/- Ascending lists of numbers: the model's insertion. Conditions: none beyond each theorem's own. What the functions on a query's variables and constants answer. Conditions: none beyond each theorem's own. -/
import Derived.Test.YtimlpdcambmcjaaGreatS8

namespace Go.Proofs.YtimlpdcambmcjaaGreat
open Go.ChangeShapes Go.WideShapes Go.ChangeAt Go.RowKit Go.Sort
open Go.Deep (BT)
set_option linter.unusedVariables false
set_option linter.unusedSimpArgs false

/-- x is laid ahead of the first greater number. -/
def insG : List Int → Int → List Int
  | [], x => [x]
  | y :: ys, x => if x < y then x :: y :: ys else y :: insG ys x
/-- x is added, once. -/
def putI (l : List Int) (x : Int) : List Int := if x ∈ l then l else insG l x
def Asc (l : List Int) : Prop := l.Pairwise (· < ·)
theorem putI_yes {l : List Int} {x : Int} (h : x ∈ l) : putI l x = l := if_pos h
theorem putI_no {l : List Int} {x : Int} (h : x ∉ l) : putI l x = insG l x := if_neg h
theorem insG_len : ∀ (l : List Int) (x : Int), (insG l x).length = l.length + 1
  | [], x => rfl
  | y :: ys, x => by
    unfold insG
    split
    · simp
    · simp [insG_len ys x]
theorem putI_len (l : List Int) (x : Int) : (putI l x).length ≤ l.length + 1 := by
  unfold putI
  split
  · omega
  · rw [insG_len]; omega
theorem insG_mem : ∀ (l : List Int) (x b : Int), b ∈ insG l x ↔ b = x ∨ b ∈ l
  | [], x, b => by simp [insG]
  | y :: ys, x, b => by
    unfold insG
    split
    · simp
    · simp only [List.mem_cons, insG_mem ys x b]
      constructor
      · rintro (h | h | h)
        · exact .inr (.inl h)
        · exact .inl h
        · exact .inr (.inr h)
      · rintro (h | h | h)
        · exact .inr (.inl h)
        · exact .inl h
        · exact .inr (.inr h)
theorem putI_mem (l : List Int) (x b : Int) : b ∈ putI l x ↔ b = x ∨ b ∈ l := by
  unfold putI
  split
  · rename_i h
    constructor
    · exact fun hb => .inr hb
    · rintro (rfl | hb)
      · exact h
      · exact hb
  · exact insG_mem l x b
theorem insG_asc : ∀ (l : List Int) (x : Int), Asc l → x ∉ l → Asc (insG l x)
  | [], x, _, _ => by simp [insG, Asc]
  | y :: ys, x, h, hx => by
    have h1 : (∀ b ∈ ys, y < b) ∧ Asc ys := by simpa [Asc, List.pairwise_cons] using h
    simp only [List.mem_cons, not_or] at hx
    unfold insG
    split
    · rename_i hlt
      refine List.pairwise_cons.2 ⟨fun b hb => ?_, h⟩
      rcases List.mem_cons.1 hb with rfl | hb
      · exact hlt
      · exact Int.lt_trans hlt (h1.1 b hb)
    · rename_i hge
      refine List.pairwise_cons.2 ⟨fun b hb => ?_, insG_asc ys x h1.2 hx.2⟩
      rcases (insG_mem ys x b).1 hb with rfl | hb
      · have := hx.1; omega
      · exact h1.1 b hb
theorem putI_asc {l : List Int} {x : Int} (h : Asc l) : Asc (putI l x) := by
  unfold putI
  split
  · exact h
  · rename_i hx
    exact insG_asc l x h hx
theorem insG_left (y : Int) (ys : List Int) (x : Int) (h : x < y) : ∀ l : List Int, insG (l ++ y :: ys) x = insG l x ++ y :: ys
  | [] => by simp [insG, h]
  | a :: l => by
    simp only [List.cons_append, insG]
    split
    · rfl
    · rw [insG_left y ys x h l]; rfl
theorem insG_right (ys : List Int) (x : Int) : ∀ l : List Int, (∀ a ∈ l, ¬ x < a) → insG (l ++ ys) x = l ++ insG ys x
  | [], _ => rfl
  | a :: l, h => by
    simp only [List.cons_append, insG]
    rw [if_neg (h a (by simp)), insG_right ys x l fun b hb => h b (by simp [hb])]
theorem insG_some (ys : List Int) (x : Int) : ∀ l : List Int, (∃ a ∈ l, x < a) → insG (l ++ ys) x = insG l x ++ ys
  | [], h => by obtain ⟨_, h, _⟩ := h; simp at h
  | a :: l, h => by
    simp only [List.cons_append, insG]
    split
    · rfl
    · rename_i hn
      rw [insG_some ys x l ?_]
      · rfl
      · obtain ⟨b, hb, hlt⟩ := h
        rcases List.mem_cons.1 hb with rfl | hb
        · exact absurd hlt hn
        · exact ⟨b, hb, hlt⟩

/-- An addition to a tree whose numbers ascend. -/
theorem putT_eq : ∀ (t : BT Int) (x : Int), Asc (tl t) → putT t x = putI (tl t) x
  | .nil, x, _ => by simp [putT, tl, putI, insG]
  | .node a o y l r, x, h => by
    have h0 : Asc (tl l) ∧ (∀ b ∈ tl r, y < b) ∧ Asc (tl r) ∧ (∀ a ∈ tl l, ∀ b ∈ y :: tl r, a < b) := by
      simp only [tl, Asc, List.pairwise_append, List.pairwise_cons] at h
      exact ⟨h.1, h.2.1.1, h.2.1.2, h.2.2⟩
    obtain ⟨h1, h2, h3, h4⟩ := h0
    show (if x < y then putT l x ++ y :: tl r else if y < x then tl l ++ y :: putT r x else tl l ++ y :: tl r) = putI (tl l ++ y :: tl r) x
    by_cases c1 : x < y
    · rw [if_pos c1, putT_eq l x h1]
      have hr : x ∉ tl r := fun hx => by have := h2 x hx; omega
      by_cases hx : x ∈ tl l
      · rw [putI_yes hx, putI_yes (by simp [hx])]
      · rw [putI_no hx, putI_no (by simp only [List.mem_append, List.mem_cons, not_or]; exact ⟨hx, by omega, hr⟩), insG_left y _ x c1]
    · rw [if_neg c1]
      have hl : ∀ a ∈ tl l, a < y := fun a ha => h4 a ha y (by simp)
      by_cases c2 : y < x
      · rw [if_pos c2, putT_eq r x h3]
        have hxl : x ∉ tl l := fun hx => by have := hl x hx; omega
        have hle : ∀ a ∈ tl l, ¬ x < a := fun a ha => by have := hl a ha; omega
        by_cases hx : x ∈ tl r
        · rw [putI_yes hx, putI_yes (by simp [hx])]
        · rw [putI_no hx, putI_no (by simp only [List.mem_append, List.mem_cons, not_or]; exact ⟨hxl, by omega, hx⟩), insG_right _ x (tl l) hle]
          simp only [insG]
          rw [if_neg (show ¬ x < y by omega)]
      · rw [if_neg c2, putI_yes (by simp [show x = y by omega])]

/-- Where the model's loop stands. -/
def PutSt (v : List Int) (x : Int) (k : Nat) (pb : Bool) (out : List Int) : Prop :=
  (pb = false → out = v.take k ∧ ∀ y ∈ v.take k, ¬ x < y) ∧ (pb = true → out = insG (v.take k) x ∧ ∃ y ∈ v.take k, x < y)
theorem PutSt.start (v : List Int) (x : Int) : PutSt v x 0 false [] := ⟨fun _ => ⟨by simp, by simp⟩, fun h => by cases h⟩
theorem takeI (v : List Int) {k : Nat} (hk : k < v.length) {z : Int} (hz : v.getD k 0 = z) : v.take (k + 1) = v.take k ++ [z] := by
  rw [List.take_succ_eq_append_getElem hk]
  subst hz
  simp [List.getD_eq_getElem?_getD, hk]
theorem PutSt.push {v : List Int} {x : Int} {k : Nat} {pb : Bool} {out : List Int} (h : PutSt v x k pb out) (hk : k < v.length) {z : Int} (hz : v.getD k 0 = z) (hp : pb = true ∨ ¬ x < z) : PutSt v x (k + 1) pb (out ++ [z]) := by
  have hT := takeI v hk hz
  refine ⟨fun hb => ?_, fun hb => ?_⟩
  · obtain ⟨h1, h2⟩ := h.1 hb
    rw [hT, h1]
    refine ⟨rfl, fun y hy => ?_⟩
    rcases List.mem_append.1 hy with hy | hy
    · exact h2 y hy
    · simp at hy
      subst hy
      rcases hp with hp | hp
      · rw [hb] at hp; cases hp
      · exact hp
  · obtain ⟨h1, h2⟩ := h.2 hb
    rw [hT, h1]
    refine ⟨(insG_some [z] x _ h2).symm, ?_⟩
    obtain ⟨y, hy, hlt⟩ := h2
    exact ⟨y, List.mem_append_left _ hy, hlt⟩
theorem PutSt.place {v : List Int} {x : Int} {k : Nat} {out : List Int} (h : PutSt v x k false out) (hk : k < v.length) {z : Int} (hz : v.getD k 0 = z) (hp : x < z) : PutSt v x (k + 1) true (out ++ [x] ++ [z]) := by
  have hT := takeI v hk hz
  obtain ⟨h1, h2⟩ := h.1 rfl
  refine ⟨fun hb => (by cases hb), fun _ => ?_⟩
  rw [hT, h1, insG_right [z] x _ h2]
  simp only [insG]
  rw [if_pos hp]
  exact ⟨by simp, z, by simp, hp⟩
theorem PutSt.done {v : List Int} {x : Int} {out : List Int} (h : PutSt v x v.length true out) : out = insG v x := by
  have := (h.2 rfl).1
  rwa [take_all] at this
theorem PutSt.last {v : List Int} {x : Int} {out : List Int} (h : PutSt v x v.length false out) : out ++ [x] = insG v x := by
  obtain ⟨h1, h2⟩ := h.1 rfl
  rw [take_all] at h1 h2
  have := insG_right [] x v h2
  rw [List.append_nil] at this
  rw [h1, this]
  rfl
theorem PutSt.len {v : List Int} {x : Int} {k : Nat} {pb : Bool} {out : List Int} (h : PutSt v x k pb out) : out.length ≤ k + 1 := by
  cases pb
  · rw [(h.1 rfl).1, List.length_take]; omega
  · rw [(h.2 rfl).1, insG_len, List.length_take]; omega

set_option maxHeartbeats 400000 in
set_option maxRecDepth 100000 in
theorem l2Has_any (lo hi : Nat) (A : Option Addr) (c : Nat) (v : List Int) (x : Int) (hl : v.length ≤ 1048576) (w : World) (h : Ints w lo hi A v) :
    Calls Tryz.prog 76 #[.slice A v.length c, .int .i64 x] w fun e w' => e = .returned (.bool (decide (x ∈ v))) ∧ w = w' := by
  have HI := Lib.hid h
  clear h
  have hl' : (v.length : Int) ≤ 1048576 := by omega
  go_enter Tryz.func76, Tryz.ntmps76
  go_wp2
  go_loop [5] (fun i => ∃ k : Nat, k ≤ v.length ∧ i = .int .i64 k ∧ Hid (x ∉ v.take k)) (fun i => v.length - (intOf i).toNat)
  case atStart => exact ⟨0, by omega, rfl, Lib.hid (by simp)⟩
  case round =>
    obtain ⟨k, hk, rfl, ha⟩ := hrel
    by_cases hlt : k < v.length
    · obtain ⟨b, off, rfl, _, _, hc⟩ := HI.out.at_ hlt
      generalize hz : v.getD k 0 = z at hc
      have HT := Lib.hid (takeI v hlt hz)
      have HM := Lib.hid (show z ∈ v by subst hz; rw [List.getD_eq_getElem?_getD, List.getElem?_eq_getElem hlt]; exact List.getElem_mem _)
      clear hz
      by_cases he : z = x
      · subst he
        go_wp2
        go_ret
        exact ⟨ret_bool (decide_eq_true HM.out).symm, rfl⟩
      · have d1 : (z == x) = false := by simpa using he
        go_wp2
        go_round
        case rel => exact ⟨k + 1, by omega, by go_num, Lib.hid (by rw [HT.out]; simp only [List.mem_append, List.mem_singleton, not_or]; exact ⟨ha.out, fun e => he e.symm⟩)⟩
        case measure => simp [intOf]; omega
    · obtain rfl : k = v.length := by omega
      go_wp2
      go_ret
      exact ⟨ret_bool (by have := ha.out; rw [take_all] at this; rw [decide_eq_false this]), rfl⟩

/-- A list that was made since block lo, or lay there. -/
def PutO (w : World) (lo : Nat) (xs : List Int) (e : Ending) (w' : World) : Prop := ∃ A c, e = .returned (.slice A xs.length c) ∧ Ints w' lo w'.heap.size A xs ∧ Below w.heap.size w w'
theorem ints_own {w : World} {base lo : Nat} {A : Option Addr} {c : Nat} {xs : List Int} (h : w.ownsRow base 3 1 (.slice A xs.length c) xs.length (xs.map (Value.int .i64))) (hlo : lo ≤ base) : Ints w lo w.heap.size A xs := by
  obtain ⟨q, hv⟩ := ownV_of_row h
  exact (hv.ints).2.2.2.mono hlo (Nat.le_refl _)

set_option maxRecDepth 100000 in
set_option maxHeartbeats 1000000 in
theorem l3Put_any (lo : Nat) (A : Option Addr) (c : Nat) (v : List Int) (x : Int) (hl : v.length ≤ 1048570) (w : World) (hlo : lo ≤ w.heap.size) (h : Ints w lo w.heap.size A v) :
    Calls Tryz.prog 118 #[.slice A v.length c, .int .i64 x] w (PutO w lo (putI v x)) := by
  obtain ⟨i0, hi, hz0, hz1, hz2⟩ := info_parts int_info
  have hl' : (v.length : Int) ≤ 1048570 := by omega
  have HI := Lib.hid h
  have HLO := Lib.hid hlo
  have XH := Lib.hid (l2Has_any lo w.heap.size A c v x (by omega) w h)
  clear h hlo
  by_cases hx : x ∈ v
  · rw [putI_yes hx]
    have D := Lib.hid (decide_eq_true hx)
    clear hx
    go_enter Tryz.func118, Tryz.ntmps118
    go_wp2_with fail
    refine XH.out.mono ?_
    rintro e w1 ⟨he, rfl⟩
    rw [D.out] at he
    subst he
    go_wp2
    go_ret
    exact ⟨A, c, rfl, HI.out, Below.refl _ _⟩
  · rw [putI_no hx]
    have D := Lib.hid (decide_eq_false hx)
    have O0 := Lib.hid (World.ownsRow_lit (base := w.heap.size) (e := 3) (size := 1) w #[] 0 (Nat.le_refl _) (by unfold maxLen; omega) rfl)
    clear hx
    go_enter Tryz.func118, Tryz.ntmps118
    go_wp2_with fail
    refine XH.out.mono ?_
    rintro e w1 ⟨he, rfl⟩
    rw [D.out] at he
    subst he
    go_wp2
    go_loopw [5, 6, 7] (fun o p i wr => ∃ (k : Nat) (pb : Bool) (out : List Int) (A2 : Option Addr) (c2 : Nat), k ≤ v.length ∧ i = .int .i64 k ∧ p = .bool pb ∧ o = .slice A2 out.length c2 ∧ wr.ownsRow w.heap.size 3 1 (.slice A2 out.length c2) out.length (out.map (Value.int .i64)) ∧ Hid (PutSt v x k pb out) ∧ Below w.heap.size w wr) (fun _ _ i _ => v.length - (intOf i).toNat)
    case atStart => exact ⟨0, false, [], _, _, by omega, rfl, rfl, rfl, O0.out, Lib.hid (PutSt.start v x), below_alloc _ _⟩
    case round =>
      obtain ⟨k, pb, out, A2, c2, hk, rfl, rfl, rfl, ho, hst, hb⟩ := hrel
      have HO := Lib.hid ho
      have HB := Lib.hid hb
      have hlen := hst.out.len
      clear ho hb
      by_cases hlt : k < v.length
      · obtain ⟨b, off, rfl, _, hbhi, hc0⟩ := HI.out.at_ hlt
        generalize hz : v.getD k 0 = z at hc0
        have HC0 := Lib.hid hc0
        have hc := (HB.out.cell (p := ⟨b, off + k, none⟩) hbhi).trans hc0
        clear hc0
        have HZ := Lib.hid hz
        have SZ := HB.out.size
        clear hz
        by_cases hp : pb = true ∨ ¬ x < z
        · have ST := Lib.hid (hst.out.push hlt HZ.out hp)
          have HO2 := Lib.hid (show wr.ownsRow w.heap.size 3 1 (.slice A2 out.length c2) out.length (out.map (Value.int .i64)) from HO.out)
          obtain ⟨out2, ho2⟩ : ∃ o, o = out ++ [z] := ⟨_, rfl⟩
          have E2 := Lib.hid ho2
          have EL := Lib.hid (show out2.length = out.length + 1 by rw [ho2]; simp)
          have EM := Lib.hid (show out2.map (Value.int .i64) = out.map (Value.int .i64) ++ [.int .i64 z] by rw [ho2]; simp)
          rw [← ho2] at ST
          clear ho2
          rcases pb with _ | _
          · have hn : ¬ x < z := by rcases hp with hp | hp; cases hp; exact hp
            have hn2 : z ≤ x := by omega
            have d1 : decide (x < z) = false := by simpa using hn
            clear hp
            go_wp2_with (at_builtin; refine wpList_push rfl _ _ _ 3 rfl i0 Tryz.underlying22 hi (.int .i64 0) 8 hz0 hz1 hz2 rfl (by omega) rfl rfl rfl HO2.out HB.out SZ (by omega) ?_; intro v' w' hown' hb' hsz'; obtain ⟨A', c', rfl⟩ := ownsRow_form hown')
            go_roundw
            case rel =>
              refine ⟨k + 1, false, out2, A', c', by omega, by go_num, rfl, by rw [EL.out], ?_, ST, hb'⟩
              rw [EL.out, EM.out]
              exact hown'
            case measure => simp [intOf]; omega
          · clear hp
            go_wp2_with (at_builtin; refine wpList_push rfl _ _ _ 3 rfl i0 Tryz.underlying22 hi (.int .i64 0) 8 hz0 hz1 hz2 rfl (by omega) rfl rfl rfl HO2.out HB.out SZ (by omega) ?_; intro v' w' hown' hb' hsz'; obtain ⟨A', c', rfl⟩ := ownsRow_form hown')
            go_roundw
            case rel =>
              refine ⟨k + 1, true, out2, A', c', by omega, by go_num, rfl, by rw [EL.out], ?_, ST, hb'⟩
              rw [EL.out, EM.out]
              exact hown'
            case measure => simp [intOf]; omega
        · have hpb : pb = false := by cases pb; rfl; exact absurd (.inl rfl) hp
          subst hpb
          have hxz : x < z := by rcases Int.lt_or_le x z with h | h; exact h; exact absurd (.inr (by omega)) hp
          have d1 : decide (x < z) = true := by simpa using hxz
          have ST := Lib.hid (hst.out.place hlt HZ.out hxz)
          obtain ⟨out2, ho2⟩ : ∃ o, o = out ++ [x] ++ [z] := ⟨_, rfl⟩
          have EL := Lib.hid (show out2.length = out.length + 1 + 1 by rw [ho2]; simp)
          have EM := Lib.hid (show out2.map (Value.int .i64) = out.map (Value.int .i64) ++ [.int .i64 x] ++ [.int .i64 z] by rw [ho2]; simp)
          rw [← ho2] at ST
          clear ho2 hp
          go_wp2_with (first
            | (at_builtin; refine wpList_push rfl _ _ _ 3 rfl i0 Tryz.underlying22 hi (.int .i64 0) 8 hz0 hz1 hz2 rfl (by omega) rfl rfl rfl HO.out HB.out SZ (by omega) ?_; intro v1 w1 hown1 hb1 hsz1; obtain ⟨A1, c1, rfl⟩ := ownsRow_form hown1
               have hc1 := (hb1.cell (p := ⟨b, off + k, none⟩) hbhi).trans HC0.out)
            | (at_builtin; refine wpList_push rfl _ _ _ 3 rfl i0 Tryz.underlying22 hi (.int .i64 0) 8 hz0 hz1 hz2 rfl (by omega) rfl rfl rfl hown1 hb1 (Nat.le_of_lt hsz1) (by omega) ?_; intro v' w' hown' hb' hsz'; obtain ⟨A', c', rfl⟩ := ownsRow_form hown'))
          go_roundw
          case rel =>
            refine ⟨k + 1, true, out2, A', c', by omega, by go_num, rfl, by rw [EL.out], ?_, ST, hb'⟩
            rw [EL.out, EM.out]
            exact hown'
          case measure => simp [intOf]; omega
      · obtain rfl : k = v.length := by omega
        have SZ := HB.out.size
        rcases pb with _ | _
        · have E := Lib.hid hst.out.last
          have EL := Lib.hid (show (insG v x).length = out.length + 1 by rw [← hst.out.last]; simp)
          have EM := Lib.hid (show (insG v x).map (Value.int .i64) = out.map (Value.int .i64) ++ [.int .i64 x] by rw [← hst.out.last]; simp)
          go_wp2_with (at_builtin; refine wpList_push rfl _ _ _ 3 rfl i0 Tryz.underlying22 hi (.int .i64 0) 8 hz0 hz1 hz2 rfl (by omega) rfl rfl rfl HO.out HB.out SZ (by omega) ?_; intro v' w' hown' hb' hsz'; obtain ⟨A', c', rfl⟩ := ownsRow_form hown')
          go_ret
          refine ⟨A', c', congrArg (fun n => Ending.returned (.slice A' n c')) EL.out.symm, ints_own (by rw [EL.out, EM.out]; exact hown') HLO.out, hb'⟩
        · have E := Lib.hid hst.out.done
          go_wp2
          go_ret
          exact ⟨A2, c2, congrArg (fun o : List Int => Ending.returned (.slice A2 o.length c2)) E.out, ints_own (by rw [← E.out]; exact HO.out) HLO.out, HB.out⟩
end Go.Proofs.YtimlpdcambmcjaaGreat

namespace Go.Proofs.YtimlpdcambmcjaaGreat
open Go.ChangeShapes Go.WideShapes Go.ChangeAt Go.RowKit Go.Sort
open Go.Deep (BT)
set_option linter.unusedVariables false
set_option linter.unusedSimpArgs false

/-- All terms of the atoms, in their order. -/
def terms (l : FL) : List Int := l.flatMap fun f => f.2
/-- Those from a to b, once each, ascending. -/
def wl (a b : Int) (ys : List Int) : List Int := (ys.filter fun x => inB x a b).foldl putI []
theorem wl_yes {a b x : Int} (ys : List Int) (h : inB x a b = true) : wl a b (ys ++ [x]) = putI (wl a b ys) x := by simp [wl, List.filter_append, h]
theorem wl_no {a b x : Int} (ys : List Int) (h : inB x a b = false) : wl a b (ys ++ [x]) = wl a b ys := by simp [wl, List.filter_append, h]
theorem foldl_asc : ∀ (ys acc : List Int), Asc acc → Asc (ys.foldl putI acc)
  | [], _, h => h
  | y :: ys, acc, h => foldl_asc ys _ (putI_asc h)
theorem wl_asc (a b : Int) (ys : List Int) : Asc (wl a b ys) := foldl_asc _ [] List.Pairwise.nil
theorem foldl_mem : ∀ (ys acc : List Int) (x : Int), x ∈ ys.foldl putI acc ↔ x ∈ ys ∨ x ∈ acc
  | [], _, _ => by simp
  | y :: ys, acc, x => by
    rw [List.foldl_cons, foldl_mem ys, putI_mem, List.mem_cons]
    constructor
    · rintro (h | h | h)
      · exact .inl (.inr h)
      · exact .inl (.inl h)
      · exact .inr h
    · rintro ((h | h) | h)
      · exact .inr (.inl h)
      · exact .inl h
      · exact .inr (.inr h)
theorem wl_mem (a b : Int) (ys : List Int) (x : Int) : x ∈ wl a b ys ↔ x ∈ ys ∧ inB x a b = true := by
  unfold wl
  rw [foldl_mem]
  simp
theorem asc_len : ∀ (l : List Int) (a b : Int), Asc l → (∀ x ∈ l, a ≤ x ∧ x ≤ b) → l.length ≤ (b - a + 1).toNat
  | [], a, b, _, _ => by simp
  | y :: ys, a, b, h, hr => by
    have h1 : (∀ c ∈ ys, y < c) ∧ Asc ys := by simpa [Asc, List.pairwise_cons] using h
    have h2 := asc_len ys (y + 1) b h1.2 fun x hx => ⟨by have := h1.1 x hx; omega, (hr x (by simp [hx])).2⟩
    have h3 := hr y (by simp)
    rw [List.length_cons]
    omega
theorem wl_len (a b : Int) (ys : List Int) : (wl a b ys).length ≤ (b - a + 1).toNat := asc_len _ a b (wl_asc a b ys) fun x hx => by
  have := ((wl_mem a b ys x).1 hx).2
  simpa [inB] using this
theorem terms_take (l : FL) {k : Nat} (hk : k < l.length) {r : Int} {xs : List Int} (hf : l.getD k (0, []) = (r, xs)) : terms (l.take (k + 1)) = terms (l.take k) ++ xs := by
  unfold terms
  rw [List.take_succ_eq_append_getElem hk, List.flatMap_append]
  have : l[k] = l.getD k (0, []) := by simp [List.getD_eq_getElem?_getD, hk]
  rw [this, hf]
  simp
theorem len_hid {a b : Int} {out ys : List Int} (h : out = wl a b ys) (hab : b - a + 1 ≤ 1000) : out.length ≤ 1000 := by
  have := wl_len a b ys
  rw [h]; omega

set_option maxRecDepth 100000 in
set_option maxHeartbeats 1000000 in
theorem spec_VarsOf (H A : Option Addr) (ch c : Nat) (hs : List Int) (l : FL) (hz : szF l ≤ 1048576) (w : World) (h : RF w A l) :
    Calls Tryz.prog 75 #[.agg #[.slice H hs.length ch, .slice A l.length c]] w (PutO w w.heap.size (wl 10 17 (terms l))) := by
  have hl := szF_len hz
  have hl' : (l.length : Int) ≤ 1048576 := by omega
  have HI := Lib.hid h
  have X0 := Lib.hid ((Box.new w #[.slice H hs.length ch, .slice A l.length c] 29).step (below_alloc _ (.cells #[] 3)))
  have B0 := Lib.hid (step (below_alloc w (.cells #[.slice H hs.length ch, .slice A l.length c] 29)) (below_alloc _ (.cells #[] 3)))
  clear h
  go_enter Tryz.func75, Tryz.ntmps75
  go_wp2
  go_loopw [3, 4, 5] (fun o i _ wr => ∃ (k : Nat) (A2 : Option Addr) (c2 : Nat) (out : List Int), k ≤ l.length ∧ i = .int .i64 k ∧ o = .slice A2 out.length c2 ∧ Hid (out = wl 10 17 (terms (l.take k))) ∧ Hid (Ints wr (w.heap.size + 1) wr.heap.size A2 out) ∧ Hid (Box wr w.heap.size #[.slice H hs.length ch, .slice A l.length c] 29) ∧ Hid (Below w.heap.size w wr)) (fun _ i _ _ => l.length - (intOf i).toNat)
  case atStart => exact ⟨0, _, 0, [], by omega, rfl, rfl, Lib.hid rfl, Lib.hid fun hne => absurd rfl hne, X0, B0⟩
  case round =>
    obtain ⟨k, A2, c2, out, hk, rfl, rfl, hO, hI, hX, hB⟩ := hrel
    have g1 := hX.out.cell 1
    simp only [List.getElem?_toArray, List.getElem?_cons_zero, List.getElem?_cons_succ] at g1
    have hk0 : (0 : Int) ≤ (k : Int) := by omega
    by_cases hlt : k < l.length
    · generalize hf : l.getD k (0, []) = f
      obtain ⟨r, xs⟩ := f
      have hxl : xs.length ≤ 1048576 := by have := szF_elem hz hlt; rw [hf] at this; exact this
      have hxl' : (xs.length : Int) ≤ 1048576 := by omega
      have TT := Lib.hid (terms_take l hlt hf)
      have hk1 : (k : Int) < (l.length : Int) := by omega
      obtain ⟨b, off, B, c3, rfl, hb, _, e1, _, hcm, hJ⟩ := HI.out.at_ hlt hf
      have E1 := Lib.hid e1
      have HJ := Lib.hid hJ
      generalize terms (l.take k) = T at hO TT
      clear hf e1 hJ
      go_wp2
      go_loopw [3, 5] (fun o i wr2 => ∃ (j : Nat) (A2 : Option Addr) (c2 : Nat) (out : List Int), j ≤ xs.length ∧ i = .int .i64 j ∧ o = .slice A2 out.length c2 ∧ Hid (out = wl 10 17 (T ++ xs.take j)) ∧ Hid (Ints wr2 (w.heap.size + 1) wr2.heap.size A2 out) ∧ Hid (Box wr2 w.heap.size #[.slice H hs.length ch, .slice (some ⟨b, off, none⟩) l.length c] 29) ∧ Hid (Below w.heap.size w wr2)) (fun _ i _ => xs.length - (intOf i).toNat)
      case atStart => exact ⟨0, A2, c2, out, by omega, rfl, rfl, Lib.hid (by rw [hO.out]; simp), hI, hX, hB⟩
      case round =>
        obtain ⟨j, A2, c2, out, hj, rfl, rfl, hO, hI, hX, hB⟩ := hrel
        clear g1
        have g1 := hX.out.cell 1
        simp only [List.getElem?_toArray, List.getElem?_cons_zero, List.getElem?_cons_succ] at g1
        have e1 := (hB.out.cell (p := ⟨b, off + k * 2 + 1, none⟩) hb).trans E1.out
        have hj0 : (0 : Int) ≤ (j : Int) := by omega
        by_cases hjt : j < xs.length
        · have hj1 : (j : Int) < (xs.length : Int) := by omega
          obtain ⟨b2, off2, rfl, hb2, hc0⟩ := HJ.out.at_ hjt
          have hc := (hB.out.cell (p := ⟨b2, off2 + j, none⟩) hb2).trans hc0
          generalize hx : xs.getD j 0 = x at hc
          have TX := Lib.hid (takeI xs hjt hx)
          have hol := len_hid hO.out (by omega)
          clear hx hc0
          by_cases hin : inB x 10 17 = true
          · have HN := Lib.hid hin
            have O2 := Lib.hid (show putI out x = wl 10 17 (T ++ xs.take (j + 1)) by rw [TX.out, ← List.append_assoc, wl_yes _ hin, hO.out])
            have XP := Lib.hid (l3Put_any (w.heap.size + 1) A2 c2 out x (by omega) wr (by have := hX.out.lt; omega) hI.out)
            clear hin
            go_wp2_with fail
            refine (spec_IsVar x _).mono ?_
            rintro e w' ⟨rfl, rfl⟩
            rw [HN.out]
            go_wp2_with fail
            refine XP.out.mono ?_
            rintro e w1 ⟨A4, c4, rfl, hI4, d4⟩
            have hX4 := Lib.hid (hX.out.step d4)
            have hB4 := Lib.hid (step hB.out d4)
            have HI4 := Lib.hid hI4
            generalize putI out x = out4 at O2 HI4
            clear d4 hI4
            go_wp2
            go_roundw
            case rel => exact ⟨j + 1, A4, c4, out4, by omega, by go_num, rfl, O2, HI4, hX4, hB4⟩
            case measure => simp [intOf]; omega
          · have hin' : inB x 10 17 = false := by simpa using hin
            have HN := Lib.hid hin'
            have O2 := Lib.hid (show out = wl 10 17 (T ++ xs.take (j + 1)) by rw [TX.out, ← List.append_assoc, wl_no _ hin', hO.out])
            clear hin hin'
            go_wp2_with fail
            refine (spec_IsVar x _).mono ?_
            rintro e w' ⟨rfl, rfl⟩
            rw [HN.out]
            go_wp2
            go_roundw
            case rel => exact ⟨j + 1, A2, c2, out, by omega, by go_num, rfl, O2, hI, hX, hB⟩
            case measure => simp [intOf]; omega
        · obtain rfl : j = xs.length := by omega
          have O2 := Lib.hid (show out = wl 10 17 (terms (l.take (k + 1))) by rw [TT.out, hO.out, take_all])
          go_wp2
          go_roundw
          case rel => exact ⟨k + 1, A2, c2, out, by omega, by go_num, rfl, O2, hI, hX, hB⟩
          case measure => simp [intOf]; omega
    · obtain rfl : k = l.length := by omega
      have O2 := Lib.hid (show out = wl 10 17 (terms l) by rw [hO.out, take_all])
      go_wp2
      go_ret
      exact ⟨A2, c2, congrArg (fun o : List Int => Ending.returned (.slice A2 o.length c2)) O2.out, by rw [← O2.out]; exact hI.out.mono (by omega) (Nat.le_refl _), hB.out⟩

set_option maxRecDepth 100000 in
set_option maxHeartbeats 1000000 in
theorem spec_ConstantsOf (H A : Option Addr) (ch c : Nat) (hs : List Int) (l : FL) (hz : szF l ≤ 1048576) (w : World) (h : RF w A l) :
    Calls Tryz.prog 119 #[.agg #[.slice H hs.length ch, .slice A l.length c]] w (PutO w w.heap.size (wl 0 9 (terms l))) := by
  have hl := szF_len hz
  have hl' : (l.length : Int) ≤ 1048576 := by omega
  have HI := Lib.hid h
  have X0 := Lib.hid ((Box.new w #[.slice H hs.length ch, .slice A l.length c] 29).step (below_alloc _ (.cells #[] 3)))
  have B0 := Lib.hid (step (below_alloc w (.cells #[.slice H hs.length ch, .slice A l.length c] 29)) (below_alloc _ (.cells #[] 3)))
  clear h
  go_enter Tryz.func119, Tryz.ntmps119
  go_wp2
  go_loopw [3, 4, 5] (fun o i _ wr => ∃ (k : Nat) (A2 : Option Addr) (c2 : Nat) (out : List Int), k ≤ l.length ∧ i = .int .i64 k ∧ o = .slice A2 out.length c2 ∧ Hid (out = wl 0 9 (terms (l.take k))) ∧ Hid (Ints wr (w.heap.size + 1) wr.heap.size A2 out) ∧ Hid (Box wr w.heap.size #[.slice H hs.length ch, .slice A l.length c] 29) ∧ Hid (Below w.heap.size w wr)) (fun _ i _ _ => l.length - (intOf i).toNat)
  case atStart => exact ⟨0, _, 0, [], by omega, rfl, rfl, Lib.hid rfl, Lib.hid fun hne => absurd rfl hne, X0, B0⟩
  case round =>
    obtain ⟨k, A2, c2, out, hk, rfl, rfl, hO, hI, hX, hB⟩ := hrel
    have g1 := hX.out.cell 1
    simp only [List.getElem?_toArray, List.getElem?_cons_zero, List.getElem?_cons_succ] at g1
    have hk0 : (0 : Int) ≤ (k : Int) := by omega
    by_cases hlt : k < l.length
    · generalize hf : l.getD k (0, []) = f
      obtain ⟨r, xs⟩ := f
      have hxl : xs.length ≤ 1048576 := by have := szF_elem hz hlt; rw [hf] at this; exact this
      have hxl' : (xs.length : Int) ≤ 1048576 := by omega
      have TT := Lib.hid (terms_take l hlt hf)
      have hk1 : (k : Int) < (l.length : Int) := by omega
      obtain ⟨b, off, B, c3, rfl, hb, _, e1, _, hcm, hJ⟩ := HI.out.at_ hlt hf
      have E1 := Lib.hid e1
      have HJ := Lib.hid hJ
      generalize terms (l.take k) = T at hO TT
      clear hf e1 hJ
      go_wp2
      go_loopw [3, 5] (fun o i wr2 => ∃ (j : Nat) (A2 : Option Addr) (c2 : Nat) (out : List Int), j ≤ xs.length ∧ i = .int .i64 j ∧ o = .slice A2 out.length c2 ∧ Hid (out = wl 0 9 (T ++ xs.take j)) ∧ Hid (Ints wr2 (w.heap.size + 1) wr2.heap.size A2 out) ∧ Hid (Box wr2 w.heap.size #[.slice H hs.length ch, .slice (some ⟨b, off, none⟩) l.length c] 29) ∧ Hid (Below w.heap.size w wr2)) (fun _ i _ => xs.length - (intOf i).toNat)
      case atStart => exact ⟨0, A2, c2, out, by omega, rfl, rfl, Lib.hid (by rw [hO.out]; simp), hI, hX, hB⟩
      case round =>
        obtain ⟨j, A2, c2, out, hj, rfl, rfl, hO, hI, hX, hB⟩ := hrel
        clear g1
        have g1 := hX.out.cell 1
        simp only [List.getElem?_toArray, List.getElem?_cons_zero, List.getElem?_cons_succ] at g1
        have e1 := (hB.out.cell (p := ⟨b, off + k * 2 + 1, none⟩) hb).trans E1.out
        have hj0 : (0 : Int) ≤ (j : Int) := by omega
        by_cases hjt : j < xs.length
        · have hj1 : (j : Int) < (xs.length : Int) := by omega
          obtain ⟨b2, off2, rfl, hb2, hc0⟩ := HJ.out.at_ hjt
          have hc := (hB.out.cell (p := ⟨b2, off2 + j, none⟩) hb2).trans hc0
          generalize hx : xs.getD j 0 = x at hc
          have TX := Lib.hid (takeI xs hjt hx)
          have hol := len_hid hO.out (by omega)
          clear hx hc0
          by_cases hin : inB x 0 9 = true
          · have HN := Lib.hid hin
            have O2 := Lib.hid (show putI out x = wl 0 9 (T ++ xs.take (j + 1)) by rw [TX.out, ← List.append_assoc, wl_yes _ hin, hO.out])
            have XP := Lib.hid (l3Put_any (w.heap.size + 1) A2 c2 out x (by omega) wr (by have := hX.out.lt; omega) hI.out)
            clear hin
            go_wp2_with fail
            refine (l1In_any x 0 9 _).mono ?_
            rintro e w' ⟨rfl, rfl⟩
            rw [HN.out]
            go_wp2_with fail
            refine XP.out.mono ?_
            rintro e w1 ⟨A4, c4, rfl, hI4, d4⟩
            have hX4 := Lib.hid (hX.out.step d4)
            have hB4 := Lib.hid (step hB.out d4)
            have HI4 := Lib.hid hI4
            generalize putI out x = out4 at O2 HI4
            clear d4 hI4
            go_wp2
            go_roundw
            case rel => exact ⟨j + 1, A4, c4, out4, by omega, by go_num, rfl, O2, HI4, hX4, hB4⟩
            case measure => simp [intOf]; omega
          · have hin' : inB x 0 9 = false := by simpa using hin
            have HN := Lib.hid hin'
            have O2 := Lib.hid (show out = wl 0 9 (T ++ xs.take (j + 1)) by rw [TX.out, ← List.append_assoc, wl_no _ hin', hO.out])
            clear hin hin'
            go_wp2_with fail
            refine (l1In_any x 0 9 _).mono ?_
            rintro e w' ⟨rfl, rfl⟩
            rw [HN.out]
            go_wp2
            go_roundw
            case rel => exact ⟨j + 1, A2, c2, out, by omega, by go_num, rfl, O2, hI, hX, hB⟩
            case measure => simp [intOf]; omega
        · obtain rfl : j = xs.length := by omega
          have O2 := Lib.hid (show out = wl 0 9 (terms (l.take (k + 1))) by rw [TT.out, hO.out, take_all])
          go_wp2
          go_roundw
          case rel => exact ⟨k + 1, A2, c2, out, by omega, by go_num, rfl, O2, hI, hX, hB⟩
          case measure => simp [intOf]; omega
    · obtain rfl : k = l.length := by omega
      have O2 := Lib.hid (show out = wl 0 9 (terms l) by rw [hO.out, take_all])
      go_wp2
      go_ret
      exact ⟨A2, c2, congrArg (fun o : List Int => Ending.returned (.slice A2 o.length c2)) O2.out, by rw [← O2.out]; exact hI.out.mono (by omega) (Nat.le_refl _), hB.out⟩

end Go.Proofs.YtimlpdcambmcjaaGreat
