/- Ascending lists of numbers: the model's insertion. Conditions: none beyond each theorem's own. -/
import Derived.Test.YtimlpdcambmcjaaTreeL
namespace Go.Proofs.Ytimlpdcambmcjaa
open Go.ChangeShapes Go.WideShapes Go.ChangeAt Go.RowKit Go.Sort
open Go.Deep (BT)
set_option linter.unusedVariables false
set_option linter.unusedSimpArgs false

/-- x is laid ahead of the first greater number. -/
def insG : List Int → Int → List Int
  | [], x => [x]
  | y :: ys, x => if x < y then x :: y :: ys else y :: insG ys x
/-- x is added, once. -/
def putI (l : List Int) (x : Int) : List Int := if x ∈ l then l else insG l x
def Asc (l : List Int) : Prop := l.Pairwise (· < ·)
theorem putI_yes {l : List Int} {x : Int} (h : x ∈ l) : putI l x = l := if_pos h
theorem putI_no {l : List Int} {x : Int} (h : x ∉ l) : putI l x = insG l x := if_neg h
theorem insG_len : ∀ (l : List Int) (x : Int), (insG l x).length = l.length + 1
  | [], x => rfl
  | y :: ys, x => by
    unfold insG
    split
    · simp
    · simp [insG_len ys x]
theorem putI_len (l : List Int) (x : Int) : (putI l x).length ≤ l.length + 1 := by
  unfold putI
  split
  · omega
  · rw [insG_len]; omega
theorem insG_mem : ∀ (l : List Int) (x b : Int), b ∈ insG l x ↔ b = x ∨ b ∈ l
  | [], x, b => by simp [insG]
  | y :: ys, x, b => by
    unfold insG
    split
    · simp
    · simp only [List.mem_cons, insG_mem ys x b]
      constructor
      · rintro (h | h | h)
        · exact .inr (.inl h)
        · exact .inl h
        · exact .inr (.inr h)
      · rintro (h | h | h)
        · exact .inr (.inl h)
        · exact .inl h
        · exact .inr (.inr h)
theorem putI_mem (l : List Int) (x b : Int) : b ∈ putI l x ↔ b = x ∨ b ∈ l := by
  unfold putI
  split
  · rename_i h
    constructor
    · exact fun hb => .inr hb
    · rintro (rfl | hb)
      · exact h
      · exact hb
  · exact insG_mem l x b
theorem insG_asc : ∀ (l : List Int) (x : Int), Asc l → x ∉ l → Asc (insG l x)
  | [], x, _, _ => by simp [insG, Asc]
  | y :: ys, x, h, hx => by
    have h1 : (∀ b ∈ ys, y < b) ∧ Asc ys := by simpa [Asc, List.pairwise_cons] using h
    simp only [List.mem_cons, not_or] at hx
    unfold insG
    split
    · rename_i hlt
      refine List.pairwise_cons.2 ⟨fun b hb => ?_, h⟩
      rcases List.mem_cons.1 hb with rfl | hb
      · exact hlt
      · exact Int.lt_trans hlt (h1.1 b hb)
    · rename_i hge
      refine List.pairwise_cons.2 ⟨fun b hb => ?_, insG_asc ys x h1.2 hx.2⟩
      rcases (insG_mem ys x b).1 hb with rfl | hb
      · have := hx.1; omega
      · exact h1.1 b hb
theorem putI_asc {l : List Int} {x : Int} (h : Asc l) : Asc (putI l x) := by
  unfold putI
  split
  · exact h
  · rename_i hx
    exact insG_asc l x h hx
theorem insG_left (y : Int) (ys : List Int) (x : Int) (h : x < y) : ∀ l : List Int, insG (l ++ y :: ys) x = insG l x ++ y :: ys
  | [] => by simp [insG, h]
  | a :: l => by
    simp only [List.cons_append, insG]
    split
    · rfl
    · rw [insG_left y ys x h l]; rfl
theorem insG_right (ys : List Int) (x : Int) : ∀ l : List Int, (∀ a ∈ l, ¬ x < a) → insG (l ++ ys) x = l ++ insG ys x
  | [], _ => rfl
  | a :: l, h => by
    simp only [List.cons_append, insG]
    rw [if_neg (h a (by simp)), insG_right ys x l fun b hb => h b (by simp [hb])]
theorem insG_some (ys : List Int) (x : Int) : ∀ l : List Int, (∃ a ∈ l, x < a) → insG (l ++ ys) x = insG l x ++ ys
  | [], h => by obtain ⟨_, h, _⟩ := h; simp at h
  | a :: l, h => by
    simp only [List.cons_append, insG]
    split
    · rfl
    · rename_i hn
      rw [insG_some ys x l ?_]
      · rfl
      · obtain ⟨b, hb, hlt⟩ := h
        rcases List.mem_cons.1 hb with rfl | hb
        · exact absurd hlt hn
        · exact ⟨b, hb, hlt⟩

/-- An addition to a tree whose numbers ascend. -/
theorem putT_eq : ∀ (t : BT Int) (x : Int), Asc (tl t) → putT t x = putI (tl t) x
  | .nil, x, _ => by simp [putT, tl, putI, insG]
  | .node a o y l r, x, h => by
    have h0 : Asc (tl l) ∧ (∀ b ∈ tl r, y < b) ∧ Asc (tl r) ∧ (∀ a ∈ tl l, ∀ b ∈ y :: tl r, a < b) := by
      simp only [tl, Asc, List.pairwise_append, List.pairwise_cons] at h
      exact ⟨h.1, h.2.1.1, h.2.1.2, h.2.2⟩
    obtain ⟨h1, h2, h3, h4⟩ := h0
    show (if x < y then putT l x ++ y :: tl r else if y < x then tl l ++ y :: putT r x else tl l ++ y :: tl r) = putI (tl l ++ y :: tl r) x
    by_cases c1 : x < y
    · rw [if_pos c1, putT_eq l x h1]
      have hr : x ∉ tl r := fun hx => by have := h2 x hx; omega
      by_cases hx : x ∈ tl l
      · rw [putI_yes hx, putI_yes (by simp [hx])]
      · rw [putI_no hx, putI_no (by simp only [List.mem_append, List.mem_cons, not_or]; exact ⟨hx, by omega, hr⟩), insG_left y _ x c1]
    · rw [if_neg c1]
      have hl : ∀ a ∈ tl l, a < y := fun a ha => h4 a ha y (by simp)
      by_cases c2 : y < x
      · rw [if_pos c2, putT_eq r x h3]
        have hxl : x ∉ tl l := fun hx => by have := hl x hx; omega
        have hle : ∀ a ∈ tl l, ¬ x < a := fun a ha => by have := hl a ha; omega
        by_cases hx : x ∈ tl r
        · rw [putI_yes hx, putI_yes (by simp [hx])]
        · rw [putI_no hx, putI_no (by simp only [List.mem_append, List.mem_cons, not_or]; exact ⟨hxl, by omega, hx⟩), insG_right _ x (tl l) hle]
          simp only [insG]
          rw [if_neg (show ¬ x < y by omega)]
      · rw [if_neg c2, putI_yes (by simp [show x = y by omega])]

/-- Where the model's loop stands. -/
def PutSt (v : List Int) (x : Int) (k : Nat) (pb : Bool) (out : List Int) : Prop :=
  (pb = false → out = v.take k ∧ ∀ y ∈ v.take k, ¬ x < y) ∧ (pb = true → out = insG (v.take k) x ∧ ∃ y ∈ v.take k, x < y)
theorem PutSt.start (v : List Int) (x : Int) : PutSt v x 0 false [] := ⟨fun _ => ⟨by simp, by simp⟩, fun h => by cases h⟩
theorem takeI (v : List Int) {k : Nat} (hk : k < v.length) {z : Int} (hz : v.getD k 0 = z) : v.take (k + 1) = v.take k ++ [z] := by
  rw [List.take_succ_eq_append_getElem hk]
  subst hz
  simp [List.getD_eq_getElem?_getD, hk]
theorem PutSt.push {v : List Int} {x : Int} {k : Nat} {pb : Bool} {out : List Int} (h : PutSt v x k pb out) (hk : k < v.length) {z : Int} (hz : v.getD k 0 = z) (hp : pb = true ∨ ¬ x < z) : PutSt v x (k + 1) pb (out ++ [z]) := by
  have hT := takeI v hk hz
  refine ⟨fun hb => ?_, fun hb => ?_⟩
  · obtain ⟨h1, h2⟩ := h.1 hb
    rw [hT, h1]
    refine ⟨rfl, fun y hy => ?_⟩
    rcases List.mem_append.1 hy with hy | hy
    · exact h2 y hy
    · simp at hy
      subst hy
      rcases hp with hp | hp
      · rw [hb] at hp; cases hp
      · exact hp
  · obtain ⟨h1, h2⟩ := h.2 hb
    rw [hT, h1]
    refine ⟨(insG_some [z] x _ h2).symm, ?_⟩
    obtain ⟨y, hy, hlt⟩ := h2
    exact ⟨y, List.mem_append_left _ hy, hlt⟩
theorem PutSt.place {v : List Int} {x : Int} {k : Nat} {out : List Int} (h : PutSt v x k false out) (hk : k < v.length) {z : Int} (hz : v.getD k 0 = z) (hp : x < z) : PutSt v x (k + 1) true (out ++ [x] ++ [z]) := by
  have hT := takeI v hk hz
  obtain ⟨h1, h2⟩ := h.1 rfl
  refine ⟨fun hb => (by cases hb), fun _ => ?_⟩
  rw [hT, h1, insG_right [z] x _ h2]
  simp only [insG]
  rw [if_pos hp]
  exact ⟨by simp, z, by simp, hp⟩
theorem PutSt.done {v : List Int} {x : Int} {out : List Int} (h : PutSt v x v.length true out) : out = insG v x := by
  have := (h.2 rfl).1
  rwa [take_all] at this
theorem PutSt.last {v : List Int} {x : Int} {out : List Int} (h : PutSt v x v.length false out) : out ++ [x] = insG v x := by
  obtain ⟨h1, h2⟩ := h.1 rfl
  rw [take_all] at h1 h2
  have := insG_right [] x v h2
  rw [List.append_nil] at this
  rw [h1, this]
  rfl
theorem PutSt.len {v : List Int} {x : Int} {k : Nat} {pb : Bool} {out : List Int} (h : PutSt v x k pb out) : out.length ≤ k + 1 := by
  cases pb
  · rw [(h.1 rfl).1, List.length_take]; omega
  · rw [(h.2 rfl).1, insG_len, List.length_take]; omega

set_option maxHeartbeats 400000 in
set_option maxRecDepth 100000 in
theorem l2Has_any (lo hi : Nat) (A : Option Addr) (c : Nat) (v : List Int) (x : Int) (hl : v.length ≤ 1048576) (w : World) (h : Ints w lo hi A v) :
    Calls Try.prog 46 #[.slice A v.length c, .int .i64 x] w fun e w' => e = .returned (.bool (decide (x ∈ v))) ∧ w = w' := by
  have HI := Lib.hid h
  clear h
  have hl' : (v.length : Int) ≤ 1048576 := by omega
  go_enter Try.func46, Try.ntmps46
  go_wp2
  go_loop [5] (fun i => ∃ k : Nat, k ≤ v.length ∧ i = .int .i64 k ∧ Hid (x ∉ v.take k)) (fun i => v.length - (intOf i).toNat)
  case atStart => exact ⟨0, by omega, rfl, Lib.hid (by simp)⟩
  case round =>
    obtain ⟨k, hk, rfl, ha⟩ := hrel
    by_cases hlt : k < v.length
    · obtain ⟨b, off, rfl, _, _, hc⟩ := HI.out.at_ hlt
      generalize hz : v.getD k 0 = z at hc
      have HT := Lib.hid (takeI v hlt hz)
      have HM := Lib.hid (show z ∈ v by subst hz; rw [List.getD_eq_getElem?_getD, List.getElem?_eq_getElem hlt]; exact List.getElem_mem _)
      clear hz
      by_cases he : z = x
      · subst he
        go_wp2
        go_ret
        exact ⟨ret_bool (decide_eq_true HM.out).symm, rfl⟩
      · have d1 : (z == x) = false := by simpa using he
        go_wp2
        go_round
        case rel => exact ⟨k + 1, by omega, by go_num, Lib.hid (by rw [HT.out]; simp only [List.mem_append, List.mem_singleton, not_or]; exact ⟨ha.out, fun e => he e.symm⟩)⟩
        case measure => simp [intOf]; omega
    · obtain rfl : k = v.length := by omega
      go_wp2
      go_ret
      exact ⟨ret_bool (by have := ha.out; rw [take_all] at this; rw [decide_eq_false this]), rfl⟩

/-- A list that was made since block lo, or lay there. -/
def PutO (w : World) (lo : Nat) (xs : List Int) (e : Ending) (w' : World) : Prop := ∃ A c, e = .returned (.slice A xs.length c) ∧ Ints w' lo w'.heap.size A xs ∧ Below w.heap.size w w'
theorem ints_own {w : World} {base lo : Nat} {A : Option Addr} {c : Nat} {xs : List Int} (h : w.ownsRow base 3 1 (.slice A xs.length c) xs.length (xs.map (Value.int .i64))) (hlo : lo ≤ base) : Ints w lo w.heap.size A xs := by
  obtain ⟨q, hv⟩ := ownV_of_row h
  exact (hv.ints).2.2.2.mono hlo (Nat.le_refl _)

set_option maxRecDepth 100000 in
set_option maxHeartbeats 1000000 in
theorem l3Put_any (lo : Nat) (A : Option Addr) (c : Nat) (v : List Int) (x : Int) (hl : v.length ≤ 1048570) (w : World) (hlo : lo ≤ w.heap.size) (h : Ints w lo w.heap.size A v) :
    Calls Try.prog 71 #[.slice A v.length c, .int .i64 x] w (PutO w lo (putI v x)) := by
  obtain ⟨i0, hi, hz0, hz1, hz2⟩ := info_parts int_info
  have hl' : (v.length : Int) ≤ 1048570 := by omega
  have HI := Lib.hid h
  have HLO := Lib.hid hlo
  have XH := Lib.hid (l2Has_any lo w.heap.size A c v x (by omega) w h)
  clear h hlo
  by_cases hx : x ∈ v
  · rw [putI_yes hx]
    have D := Lib.hid (decide_eq_true hx)
    clear hx
    go_enter Try.func71, Try.ntmps71
    go_wp2_with fail
    refine XH.out.mono ?_
    rintro e w1 ⟨he, rfl⟩
    rw [D.out] at he
    subst he
    go_wp2
    go_ret
    exact ⟨A, c, rfl, HI.out, Below.refl _ _⟩
  · rw [putI_no hx]
    have D := Lib.hid (decide_eq_false hx)
    have O0 := Lib.hid (World.ownsRow_lit (base := w.heap.size) (e := 3) (size := 1) w #[] 0 (Nat.le_refl _) (by unfold maxLen; omega) rfl)
    clear hx
    go_enter Try.func71, Try.ntmps71
    go_wp2_with fail
    refine XH.out.mono ?_
    rintro e w1 ⟨he, rfl⟩
    rw [D.out] at he
    subst he
    go_wp2
    go_loopw [5, 6, 7] (fun o p i wr => ∃ (k : Nat) (pb : Bool) (out : List Int) (A2 : Option Addr) (c2 : Nat), k ≤ v.length ∧ i = .int .i64 k ∧ p = .bool pb ∧ o = .slice A2 out.length c2 ∧ wr.ownsRow w.heap.size 3 1 (.slice A2 out.length c2) out.length (out.map (Value.int .i64)) ∧ Hid (PutSt v x k pb out) ∧ Below w.heap.size w wr) (fun _ _ i _ => v.length - (intOf i).toNat)
    case atStart => exact ⟨0, false, [], _, _, by omega, rfl, rfl, rfl, O0.out, Lib.hid (PutSt.start v x), below_alloc _ _⟩
    case round =>
      obtain ⟨k, pb, out, A2, c2, hk, rfl, rfl, rfl, ho, hst, hb⟩ := hrel
      have HO := Lib.hid ho
      have HB := Lib.hid hb
      have hlen := hst.out.len
      clear ho hb
      by_cases hlt : k < v.length
      · obtain ⟨b, off, rfl, _, hbhi, hc0⟩ := HI.out.at_ hlt
        generalize hz : v.getD k 0 = z at hc0
        have HC0 := Lib.hid hc0
        have hc := (HB.out.cell (p := ⟨b, off + k, none⟩) hbhi).trans hc0
        clear hc0
        have HZ := Lib.hid hz
        have SZ := HB.out.size
        clear hz
        by_cases hp : pb = true ∨ ¬ x < z
        · have ST := Lib.hid (hst.out.push hlt HZ.out hp)
          have HO2 := Lib.hid (show wr.ownsRow w.heap.size 3 1 (.slice A2 out.length c2) out.length (out.map (Value.int .i64)) from HO.out)
          obtain ⟨out2, ho2⟩ : ∃ o, o = out ++ [z] := ⟨_, rfl⟩
          have E2 := Lib.hid ho2
          have EL := Lib.hid (show out2.length = out.length + 1 by rw [ho2]; simp)
          have EM := Lib.hid (show out2.map (Value.int .i64) = out.map (Value.int .i64) ++ [.int .i64 z] by rw [ho2]; simp)
          rw [← ho2] at ST
          clear ho2
          rcases pb with _ | _
          · have hn : ¬ x < z := by rcases hp with hp | hp; cases hp; exact hp
            have hn2 : z ≤ x := by omega
            have d1 : decide (x < z) = false := by simpa using hn
            clear hp
            go_wp2_with (at_builtin; refine wpList_push rfl _ _ _ 3 rfl i0 Try.underlying22 hi (.int .i64 0) 8 hz0 hz1 hz2 rfl (by omega) rfl rfl rfl HO2.out HB.out SZ (by omega) ?_; intro v' w' hown' hb' hsz'; obtain ⟨A', c', rfl⟩ := ownsRow_form hown')
            go_roundw
            case rel =>
              refine ⟨k + 1, false, out2, A', c', by omega, by go_num, rfl, by rw [EL.out], ?_, ST, hb'⟩
              rw [EL.out, EM.out]
              exact hown'
            case measure => simp [intOf]; omega
          · clear hp
            go_wp2_with (at_builtin; refine wpList_push rfl _ _ _ 3 rfl i0 Try.underlying22 hi (.int .i64 0) 8 hz0 hz1 hz2 rfl (by omega) rfl rfl rfl HO2.out HB.out SZ (by omega) ?_; intro v' w' hown' hb' hsz'; obtain ⟨A', c', rfl⟩ := ownsRow_form hown')
            go_roundw
            case rel =>
              refine ⟨k + 1, true, out2, A', c', by omega, by go_num, rfl, by rw [EL.out], ?_, ST, hb'⟩
              rw [EL.out, EM.out]
              exact hown'
            case measure => simp [intOf]; omega
        · have hpb : pb = false := by cases pb; rfl; exact absurd (.inl rfl) hp
          subst hpb
          have hxz : x < z := by rcases Int.lt_or_le x z with h | h; exact h; exact absurd (.inr (by omega)) hp
          have d1 : decide (x < z) = true := by simpa using hxz
          have ST := Lib.hid (hst.out.place hlt HZ.out hxz)
          obtain ⟨out2, ho2⟩ : ∃ o, o = out ++ [x] ++ [z] := ⟨_, rfl⟩
          have EL := Lib.hid (show out2.length = out.length + 1 + 1 by rw [ho2]; simp)
          have EM := Lib.hid (show out2.map (Value.int .i64) = out.map (Value.int .i64) ++ [.int .i64 x] ++ [.int .i64 z] by rw [ho2]; simp)
          rw [← ho2] at ST
          clear ho2 hp
          go_wp2_with (first
            | (at_builtin; refine wpList_push rfl _ _ _ 3 rfl i0 Try.underlying22 hi (.int .i64 0) 8 hz0 hz1 hz2 rfl (by omega) rfl rfl rfl HO.out HB.out SZ (by omega) ?_; intro v1 w1 hown1 hb1 hsz1; obtain ⟨A1, c1, rfl⟩ := ownsRow_form hown1
               have hc1 := (hb1.cell (p := ⟨b, off + k, none⟩) hbhi).trans HC0.out)
            | (at_builtin; refine wpList_push rfl _ _ _ 3 rfl i0 Try.underlying22 hi (.int .i64 0) 8 hz0 hz1 hz2 rfl (by omega) rfl rfl rfl hown1 hb1 (Nat.le_of_lt hsz1) (by omega) ?_; intro v' w' hown' hb' hsz'; obtain ⟨A', c', rfl⟩ := ownsRow_form hown'))
          go_roundw
          case rel =>
            refine ⟨k + 1, true, out2, A', c', by omega, by go_num, rfl, by rw [EL.out], ?_, ST, hb'⟩
            rw [EL.out, EM.out]
            exact hown'
          case measure => simp [intOf]; omega
      · obtain rfl : k = v.length := by omega
        have SZ := HB.out.size
        rcases pb with _ | _
        · have E := Lib.hid hst.out.last
          have EL := Lib.hid (show (insG v x).length = out.length + 1 by rw [← hst.out.last]; simp)
          have EM := Lib.hid (show (insG v x).map (Value.int .i64) = out.map (Value.int .i64) ++ [.int .i64 x] by rw [← hst.out.last]; simp)
          go_wp2_with (at_builtin; refine wpList_push rfl _ _ _ 3 rfl i0 Try.underlying22 hi (.int .i64 0) 8 hz0 hz1 hz2 rfl (by omega) rfl rfl rfl HO.out HB.out SZ (by omega) ?_; intro v' w' hown' hb' hsz'; obtain ⟨A', c', rfl⟩ := ownsRow_form hown')
          go_ret
          refine ⟨A', c', congrArg (fun n => Ending.returned (.slice A' n c')) EL.out.symm, ints_own (by rw [EL.out, EM.out]; exact hown') HLO.out, hb'⟩
        · have E := Lib.hid hst.out.done
          go_wp2
          go_ret
          exact ⟨A2, c2, congrArg (fun o : List Int => Ending.returned (.slice A2 o.length c2)) E.out, ints_own (by rw [← E.out]; exact HO.out) HLO.out, HB.out⟩
end Go.Proofs.Ytimlpdcambmcjaa
