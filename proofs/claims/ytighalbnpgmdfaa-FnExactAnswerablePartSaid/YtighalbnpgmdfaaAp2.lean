/- What the functions on a query's head and on queries answer. Conditions: none beyond each theorem's own. What the two functions IsQuery answer. Conditions: none beyond each theorem's own. Orders, purely: which steps are possible, the greedy order, all orders. Conditions: none beyond each theorem's own. -/
import Derived.Test.YtighalbnpgmdfaaAp1
import Derived.Test.YtighalbnpgmdfaaVars
import Derived.Test.YtighalbnpgmdfaaMths
import Derived.Test.YtighalbnpgmdfaaStp

namespace Go.Proofs.Ytighalbnpgmdfaa
open Go.ChangeShapes Go.WideShapes Go.ChangeAt Go.RowKit Go.Sort
open Go.Proofs.Ytighalbnpgmdfaa.atom
set_option linter.unusedVariables false
set_option linter.unusedSimpArgs false

/-- Are all numbers of the head among vs? -/
def inAll (vs hs : List Int) : Bool := hs.all fun x => decide (x ∈ vs)
theorem inAll_take (vs hs : List Int) (k : Nat) (hk : k < hs.length) : inAll vs (hs.take (k + 1)) = (inAll vs (hs.take k) && decide (hs.getD k 0 ∈ vs)) := by
  unfold inAll
  rw [List.take_succ_eq_append_getElem hk, List.all_append]
  simp [List.getD_eq_getElem?_getD, hk]
theorem inAll_not (vs hs : List Int) (k : Nat) (hk : k < hs.length) (h : decide (hs.getD k 0 ∈ vs) = false) : inAll vs hs = false := by
  unfold inAll
  rw [List.all_eq_false]
  refine ⟨hs[k], List.getElem_mem _, ?_⟩
  have : hs.getD k 0 = hs[k] := by simp [List.getD_eq_getElem?_getD, hk]
  rw [this] at h
  simp [h]
/-- Is hs a head for the atoms l? -/
def headB (hs : List Int) (l : FL) : Bool := decide (hs.length ≤ 3) && inAll (wl 10 17 (terms l)) hs

/-- A place of x in v, or a negative number. -/
def IdxOut (w : World) (v : List Int) (x : Int) (e : Ending) (w' : World) : Prop := (∃ n : Int, e = .returned (.int .i64 n) ∧ decide (0 ≤ n) = decide (x ∈ v)) ∧ w = w'

set_option maxRecDepth 100000 in
set_option maxHeartbeats 400000 in
theorem index_any (lo hi : Nat) (A : Option Addr) (c : Nat) (v : List Int) (x : Int) (hl : v.length ≤ 1048576) (w : World) (h : Ints w lo hi A v) :
    Calls Try.prog 141 #[.slice A v.length c, .int .i64 x] w (IdxOut w v x) := by
  have HI := Lib.hid h
  clear h
  have hl' : (v.length : Int) ≤ 1048576 := by omega
  go_enter Try.func141, Try.ntmps141
  go_wp2
  go_loop [5, 8] (fun _ i => ∃ k : Nat, k ≤ v.length ∧ i = .int .i64 k ∧ Hid (x ∉ v.take k)) (fun _ i => v.length - (intOf i).toNat)
  case atStart => exact ⟨0, by omega, rfl, Lib.hid (by simp)⟩
  case round =>
    obtain ⟨k, hk, rfl, ha⟩ := hrel
    by_cases hlt : k < v.length
    · obtain ⟨b, off, rfl, _, _, hc⟩ := HI.out.at_ hlt
      generalize hz : v.getD k 0 = z at hc
      have HT := Lib.hid (takeI v hlt hz)
      have HM := Lib.hid (show z ∈ v by subst hz; rw [List.getD_eq_getElem?_getD, List.getElem?_eq_getElem hlt]; exact List.getElem_mem _)
      clear hz
      by_cases he : x = z
      · subst he
        go_wp2
        go_ret
        exact ⟨⟨_, rfl, by rw [decide_eq_true HM.out]; simp⟩, rfl⟩
      · have d1 : (x == z) = false := by simpa using he
        go_wp2
        go_round
        case rel => exact ⟨k + 1, by omega, by go_num, Lib.hid (by rw [HT.out]; simp only [List.mem_append, List.mem_singleton, not_or]; exact ⟨ha.out, he⟩)⟩
        case measure => simp [intOf]; omega
    · obtain rfl : k = v.length := by omega
      go_wp2
      go_ret
      exact ⟨⟨_, rfl, by have := ha.out; rw [take_all] at this; rw [decide_eq_false this]; rfl⟩, rfl⟩
set_option maxRecDepth 100000 in
theorem contains_any (lo hi : Nat) (A : Option Addr) (c : Nat) (v : List Int) (x : Int) (hl : v.length ≤ 1048576) (w : World) (h : Ints w lo hi A v) :
    Calls Try.prog 115 #[.slice A v.length c, .int .i64 x] w fun e w' => e = .returned (.bool (decide (x ∈ v))) ∧ w = w' := by
  have XI := Lib.hid (index_any lo hi A c v x hl w h)
  clear h
  go_enter Try.func115, Try.ntmps115
  go_wp2_with fail
  refine XI.out.mono ?_
  rintro e w1 ⟨⟨n, rfl, hn⟩, rfl⟩
  have HN := Lib.hid hn
  clear hn
  go_wp2
  go_ret
  exact ⟨ret_bool HN.out, rfl⟩

set_option maxRecDepth 100000 in
set_option maxHeartbeats 1000000 in
theorem isHead_any (H A : Option Addr) (ch c : Nat) (hs : List Int) (l : FL) (hh : hs.length ≤ 1048577) (hz : szF l ≤ 1048576) (w : World) (h : RI w H hs) (h' : RF w A l) :
    Calls Try.prog 112 #[.agg #[.slice H hs.length ch, .slice A l.length c]] w fun e w' => e = .returned (.bool (headB hs l)) ∧ Below w.heap.size w w' := by
  have hh' : (hs.length : Int) ≤ 1048577 := by omega
  have B0 := Lib.hid (below_alloc w (.cells #[.slice H hs.length ch, .slice A l.length c] 37))
  have HI := Lib.hid h
  have XV := Lib.hid ((impl_VarsOf H A ch c hs l hz _ (h'.step B0.out)).mono fun _ _ h => h.toG)
  have X0 := Lib.hid (Box.new w #[.slice H hs.length ch, .slice A l.length c] 37)
  have HV := Lib.hid (wl_len 10 17 (terms l))
  clear h h'
  by_cases h3 : hs.length ≤ 3
  · have h3' : (hs.length : Int) ≤ 3 := by omega
    have E := Lib.hid (show headB hs l = inAll (wl 10 17 (terms l)) hs by simp [headB, h3])
    rw [E.out]
    have hv : (wl 10 17 (terms l)).length ≤ 1048576 := by have := HV.out; omega
    generalize wl 10 17 (terms l) = vs at XV hv
    clear HV E
    go_enter Try.func112, Try.ntmps112
    go_wp2_with fail
    refine XV.out.mono ?_
    rintro e w1 ⟨A1, c1, rfl, hg, d⟩
    have B1 := Lib.hid (step B0.out d)
    have X1 := X0.out.step d
    have x0 := X1.cell 0
    simp only [List.getElem?_toArray, List.getElem?_cons_zero, List.getElem?_cons_succ] at x0
    have HG := Lib.hid hg.ri
    have HI1 := Lib.hid (HI.out.step B1.out)
    clear hg d X1
    go_wp2
    go_loop [5, 15] (fun _ i => ∃ k : Nat, k ≤ hs.length ∧ i = .int .i64 k ∧ Hid (inAll vs (hs.take k) = true)) (fun _ i => hs.length - (intOf i).toNat)
    case atStart => exact ⟨0, by omega, rfl, Lib.hid rfl⟩
    case round =>
      obtain ⟨k, hk, rfl, ha⟩ := hrel
      by_cases hlt : k < hs.length
      · obtain ⟨b, off, rfl, _, hc⟩ := HI1.out.at_ hlt
        generalize hx : hs.getD k 0 = x at hc
        have HX := Lib.hid hx
        have XC := Lib.hid (contains_any 0 _ A1 c1 vs x hv w1 HG.out)
        clear hx
        by_cases hm : decide (x ∈ vs) = true
        · have HM := Lib.hid hm
          clear hm
          go_wp2_with fail
          refine XC.out.mono ?_
          rintro e w2 ⟨he, rfl⟩
          rw [HM.out] at he
          subst he
          go_wp2
          go_round
          case rel => exact ⟨k + 1, by omega, by go_num, Lib.hid (by rw [inAll_take _ _ _ hlt, ha.out, HX.out, HM.out]; rfl)⟩
          case measure => simp [intOf]; omega
        · have HM := Lib.hid (show decide (x ∈ vs) = false by simpa using hm)
          clear hm
          go_wp2_with fail
          refine XC.out.mono ?_
          rintro e w2 ⟨he, rfl⟩
          rw [HM.out] at he
          subst he
          go_wp2
          go_ret
          exact ⟨ret_bool (inAll_not _ _ k hlt (by rw [HX.out]; exact HM.out)).symm, B1.out⟩
      · obtain rfl : k = hs.length := by omega
        go_wp2
        go_ret
        exact ⟨ret_bool (by have := ha.out; rw [take_all] at this; rw [this]), B1.out⟩
  · have h3' : 3 < (hs.length : Int) := by omega
    have E := Lib.hid (show headB hs l = false by simp [headB, h3])
    rw [E.out]
    go_enter Try.func112, Try.ntmps112
    go_wp2
    go_ret
    exact ⟨rfl, B0.out⟩
end Go.Proofs.Ytighalbnpgmdfaa

namespace Go.Proofs.Ytighalbnpgmdfaa
open Go.ChangeShapes Go.WideShapes Go.ChangeAt Go.RowKit Go.Sort
open Go.Proofs.Ytighalbnpgmdfaa.atom
set_option linter.unusedVariables false
set_option linter.unusedSimpArgs false

/-- Are all of l atoms of the schema s? -/
def atomsB (s : List Int) (l : FL) : Bool := l.all fun f => atom.factB s f.1 f.2
theorem atomsB_take (s : List Int) (l : FL) (k : Nat) (hk : k < l.length) {r : Int} {xs : List Int} (hf : l.getD k (0, []) = (r, xs)) : atomsB s (l.take (k + 1)) = (atomsB s (l.take k) && atom.factB s r xs) := by
  unfold atomsB
  rw [List.take_succ_eq_append_getElem hk, List.all_append]
  have : l[k] = l.getD k (0, []) := by simp [List.getD_eq_getElem?_getD, hk]
  rw [this, hf]
  simp
theorem atomsB_not (s : List Int) (l : FL) (k : Nat) (hk : k < l.length) {r : Int} {xs : List Int} (hf : l.getD k (0, []) = (r, xs)) (h : atom.factB s r xs = false) : atomsB s l = false := by
  unfold atomsB
  rw [List.all_eq_false]
  refine ⟨l[k], List.getElem_mem _, ?_⟩
  have : l.getD k (0, []) = l[k] := by simp [List.getD_eq_getElem?_getD, hk]
  rw [← this, hf]
  simp [h]
/-- Is (hs, l) a query of the schema s? -/
def queryB (s hs : List Int) (l : FL) : Bool := atomsB s l && inAll (wl 10 17 (terms l)) hs && schB s && inB (l.length : Int) 1 4 && decide (hs.length ≤ 3)
theorem atomsB_sch {s : List Int} {l : FL} (h : atomsB s l = true) (hl : 0 < l.length) : schB s = true := by
  unfold atomsB at h
  rw [List.all_eq_true] at h
  have := h l[0] (List.getElem_mem _)
  unfold atom.factB at this
  simp only [Bool.and_eq_true] at this
  exact this.1.1.1
theorem queryB_i (s hs : List Int) (l : FL) : queryB s hs l = (inB (l.length : Int) 1 4 && headB hs l && atomsB s l) := by
  unfold queryB headB
  by_cases h1 : inB (l.length : Int) 1 4 = true
  · by_cases h2 : atomsB s l = true
    · have h3 : 1 ≤ (l.length : Int) ∧ (l.length : Int) ≤ 4 := by simpa [inB] using h1
      rw [h1, h2, atomsB_sch h2 (by omega)]
      simp [Bool.and_comm]
    · have h2' : atomsB s l = false := by simpa using h2
      simp [h2']
  · have h1' : inB (l.length : Int) 1 4 = false := by simpa using h1
    simp [h1']

set_option maxRecDepth 100000 in
set_option maxHeartbeats 1000000 in
theorem impl_IsQuery (S H A : Option Addr) (cs ch c : Nat) (s hs : List Int) (l : FL) (hls : s.length ≤ 1048576) (hh : hs.length ≤ 1048577) (hz : szF l ≤ 1048576) (w : World) (hS : RI w S s) (h : RI w H hs) (h' : RF w A l) :
    Calls Try.prog 77 #[.slice S s.length cs, .agg #[.slice H hs.length ch, .slice A l.length c]] w fun e w' => e = .returned (.bool (queryB s hs l)) ∧ Below w.heap.size w w' := by
  have hl := szF_len hz
  have hl' : (l.length : Int) ≤ 1048576 := by omega
  have B0 := Lib.hid (below_alloc w (.cells #[.slice H hs.length ch, .slice A l.length c] 37))
  have X0 := Lib.hid (Box.new w #[.slice H hs.length ch, .slice A l.length c] 37)
  have XH := Lib.hid (isHead_any H A ch c hs l hh hz _ (h.step B0.out) (h'.step B0.out))
  have HS := Lib.hid hS
  have HF := Lib.hid h'
  clear hS h h'
  rw [queryB_i]
  by_cases c1 : inB (l.length : Int) 1 4 = true
  · have C1 := Lib.hid c1
    by_cases c2 : headB hs l = true
    · have C2 := Lib.hid c2
      have E := Lib.hid (show (inB (l.length : Int) 1 4 && headB hs l && atomsB s l) = atomsB s l by rw [c1, c2]; simp)
      rw [E.out]
      clear c1 c2 E
      go_enter Try.func77, Try.ntmps77
      go_wp2_with fail
      refine (isBetween_any (l.length : Int) 1 4 _).mono ?_
      rintro e w1 ⟨he, rfl⟩
      rw [C1.out] at he
      subst he
      go_wp2_with fail
      refine XH.out.mono ?_
      rintro e w1 ⟨he, d⟩
      rw [C2.out] at he
      subst he
      have X1 := X0.out.step d
      have x1 := X1.cell 1
      simp only [List.getElem?_toArray, List.getElem?_cons_zero, List.getElem?_cons_succ] at x1
      have B1 := Lib.hid (step B0.out d)
      clear d X1
      go_wp2
      go_loopw [6, 20] (fun _ i wr => ∃ k : Nat, k ≤ l.length ∧ i = .int .i64 k ∧ Hid (atomsB s (l.take k) = true) ∧ Hid (Below w.heap.size w wr)) (fun _ i _ => l.length - (intOf i).toNat)
      case atStart => exact ⟨0, by omega, rfl, Lib.hid rfl, B1⟩
      case round =>
        obtain ⟨k, hk, rfl, ha, hB⟩ := hrel
        have hk0 : (0 : Int) ≤ (k : Int) := by omega
        by_cases hlt : k < l.length
        · generalize hf : l.getD k (0, []) = f
          obtain ⟨r, xs⟩ := f
          have hxl : xs.length ≤ 1048576 := by have := szF_elem hz hlt; rw [hf] at this; exact this
          have HT := Lib.hid (atomsB_take s l k hlt hf)
          have HN := Lib.hid fun (h : atom.factB s r xs = false) => atomsB_not s l k hlt hf h
          have hk1 : (k : Int) < (l.length : Int) := by omega
          obtain ⟨b, off, B, c3, rfl, hb, e0, e1, _, hcm, hJ⟩ := HF.out.at_ hlt hf
          have q0 := (hB.out.cell (p := ⟨b, off + k * 2, none⟩) hb).trans e0
          have q1 := (hB.out.cell (p := ⟨b, off + k * 2 + 1, none⟩) hb).trans e1
          have BA := below_alloc wr (.cells #[.int .i64 r, .slice B xs.length c3] 73)
          have B2 := step hB.out BA
          have XA := Lib.hid (impl_IsAtom_r S cs s r xs B c3 (by omega) (by omega) _ (HS.out.step B2) (hJ.step B2))
          have HB2 := Lib.hid B2
          clear hf e0 e1 hJ BA B2
          by_cases c3 : atom.factB s r xs = true
          · have C3 := Lib.hid c3
            clear c3
            go_wp2_with fail
            refine XA.out.mono ?_
            rintro e w2 ⟨he, d⟩
            rw [C3.out] at he
            subst he
            have HB3 := Lib.hid (step HB2.out d)
            clear d
            go_wp2
            go_roundw
            case rel => exact ⟨k + 1, by omega, by go_num, Lib.hid (by rw [HT.out, ha.out, C3.out]; rfl), HB3⟩
            case measure => simp [intOf]; omega
          · have C3 := Lib.hid (show atom.factB s r xs = false by simpa using c3)
            clear c3
            go_wp2_with fail
            refine XA.out.mono ?_
            rintro e w2 ⟨he, d⟩
            rw [C3.out] at he
            subst he
            have HB3 := Lib.hid (step HB2.out d)
            clear d
            go_wp2
            go_ret
            exact ⟨ret_bool (HN.out C3.out).symm, HB3.out⟩
        · obtain rfl : k = l.length := by omega
          go_wp2
          go_ret
          exact ⟨ret_bool (by have := ha.out; rw [take_all] at this; rw [this]), hB.out⟩
    · have C2 := Lib.hid (show headB hs l = false by simpa using c2)
      have E := Lib.hid (show (inB (l.length : Int) 1 4 && headB hs l && atomsB s l) = false by rw [C2.out]; simp)
      rw [E.out]
      clear c1 c2 E
      go_enter Try.func77, Try.ntmps77
      go_wp2_with fail
      refine (isBetween_any (l.length : Int) 1 4 _).mono ?_
      rintro e w1 ⟨he, rfl⟩
      rw [C1.out] at he
      subst he
      go_wp2_with fail
      refine XH.out.mono ?_
      rintro e w1 ⟨he, d⟩
      rw [C2.out] at he
      subst he
      have B1 := Lib.hid (step B0.out d)
      clear d
      go_wp2
      go_ret
      exact ⟨rfl, B1.out⟩
  · have C1 := Lib.hid (show inB (l.length : Int) 1 4 = false by simpa using c1)
    have E := Lib.hid (show (inB (l.length : Int) 1 4 && headB hs l && atomsB s l) = false by rw [C1.out]; simp)
    rw [E.out]
    clear c1 E
    go_enter Try.func77, Try.ntmps77
    go_wp2_with fail
    refine (isBetween_any (l.length : Int) 1 4 _).mono ?_
    rintro e w1 ⟨he, rfl⟩
    rw [C1.out] at he
    subst he
    go_wp2
    go_ret
    exact ⟨rfl, B0.out⟩

set_option maxRecDepth 100000 in
set_option maxHeartbeats 1000000 in
theorem spec_IsQuery (S H A : Option Addr) (cs ch c : Nat) (s hs : List Int) (l : FL) (hls : s.length ≤ 1048576) (hh : hs.length ≤ 1048577) (hz : szF l ≤ 1048576) (w : World) (hS : RI w S s) (h : RI w H hs) (h' : RF w A l) :
    Calls Try.prog 73 #[.slice S s.length cs, .agg #[.slice H hs.length ch, .slice A l.length c]] w fun e w' => e = .returned (.bool (queryB s hs l)) ∧ Below w.heap.size w w' := by
  have hl := szF_len hz
  have hl' : (l.length : Int) ≤ 1048576 := by omega
  have hh' : (hs.length : Int) ≤ 1048577 := by omega
  have B0 := Lib.hid (below_alloc w (.cells #[.slice H hs.length ch, .slice A l.length c] 37))
  have X0 := Lib.hid (Box.new w #[.slice H hs.length ch, .slice A l.length c] 37)
  have HS := Lib.hid hS
  have HH := Lib.hid h
  have HF := Lib.hid h'
  have HV := Lib.hid (wl_len 10 17 (terms l))
  have CV := Lib.hid fun (W : World) (hW : RF W A l) => (spec_VarsOf H A ch c hs l hz W hW).mono fun _ _ h => h.toV
  clear hS h h'
  go_enter Try.func73, Try.ntmps73
  go_wp2
  go_loopw [5] (fun i wr => ∃ k : Nat, k ≤ l.length ∧ i = .int .i64 k ∧ Hid (atomsB s (l.take k) = true) ∧ Hid (Below w.heap.size w wr) ∧ Hid (Box wr w.heap.size #[.slice H hs.length ch, .slice A l.length c] 37)) (fun i _ => l.length - (intOf i).toNat)
  case atStart => exact ⟨0, by omega, rfl, Lib.hid rfl, B0, X0⟩
  case round =>
    obtain ⟨k, hk, rfl, ha, hB, hX⟩ := hrel
    have hk0 : (0 : Int) ≤ (k : Int) := by omega
    have g0 := hX.out.cell 0
    have g1 := hX.out.cell 1
    simp only [List.getElem?_toArray, List.getElem?_cons_zero, List.getElem?_cons_succ] at g0 g1
    by_cases hlt : k < l.length
    · generalize hf : l.getD k (0, []) = f
      obtain ⟨r, xs⟩ := f
      have hxl : xs.length ≤ 1048576 := by have := szF_elem hz hlt; rw [hf] at this; exact this
      have HT := Lib.hid (atomsB_take s l k hlt hf)
      have HN := Lib.hid fun (h : atom.factB s r xs = false) => atomsB_not s l k hlt hf h
      have hk1 : (k : Int) < (l.length : Int) := by omega
      obtain ⟨b, off, B, c3, rfl, hb, e0, e1, _, hcm, hJ⟩ := HF.out.at_ hlt hf
      have q0 := (hB.out.cell (p := ⟨b, off + k * 2, none⟩) hb).trans e0
      have q1 := (hB.out.cell (p := ⟨b, off + k * 2 + 1, none⟩) hb).trans e1
      have XA := Lib.hid (spec_IsAtom_r S cs s r xs B c3 (by omega) (by omega) _ (HS.out.step hB.out) (hJ.step hB.out))
      clear hf e0 e1 hJ g0
      by_cases c3 : atom.factB s r xs = true
      · have C3 := Lib.hid c3
        clear c3
        go_wp2_with fail
        refine XA.out.mono ?_
        rintro e w2 ⟨he, d⟩
        rw [C3.out] at he
        subst he
        have HB3 := Lib.hid (step hB.out d)
        have HX3 := Lib.hid (hX.out.step d)
        clear d g1 q0 q1
        go_wp2
        go_roundw
        case rel => exact ⟨k + 1, by omega, by go_num, Lib.hid (by rw [HT.out, ha.out, C3.out]; rfl), HB3, HX3⟩
        case measure => simp [intOf]; omega
      · have C3 := Lib.hid (show atom.factB s r xs = false by simpa using c3)
        clear c3
        go_wp2_with fail
        refine XA.out.mono ?_
        rintro e w2 ⟨he, d⟩
        rw [C3.out] at he
        subst he
        have HB3 := Lib.hid (step hB.out d)
        clear d g1 q0 q1
        go_wp2
        go_ret
        exact ⟨ret_bool (by unfold queryB; rw [HN.out C3.out]; rfl), HB3.out⟩
    · obtain rfl : k = l.length := by omega
      have HA := Lib.hid (show atomsB s l = true by have := ha.out; rwa [take_all] at this)
      have hv : (wl 10 17 (terms l)).length ≤ 1048576 := by have := HV.out; omega
      have EQ := Lib.hid (show queryB s hs l = (inAll (wl 10 17 (terms l)) hs && schB s && inB (l.length : Int) 1 4 && decide (hs.length ≤ 3)) by unfold queryB; rw [HA.out]; simp)
      generalize wl 10 17 (terms l) = vs at CV hv EQ
      clear ha HV
      go_wp2_with fail
      refine (CV.out _ (HF.out.step hB.out)).mono ?_
      rintro e w2 ⟨A2, c2, rfl, hi2, d⟩
      have HV2 := Lib.hid hi2.ri
      have HB2 := Lib.hid (step hB.out d)
      have HX2 := Lib.hid (hX.out.step d)
      have HH2 := Lib.hid (HH.out.step (step hB.out d))
      clear g0 g1
      have g0 := HX2.out.cell 0
      have g1 := HX2.out.cell 1
      simp only [List.getElem?_toArray, List.getElem?_cons_zero, List.getElem?_cons_succ] at g0 g1
      clear hi2 d
      go_wp2
      go_loop [7] (fun i => ∃ j : Nat, j ≤ hs.length ∧ i = .int .i64 j ∧ Hid (inAll vs (hs.take j) = true)) (fun i => hs.length - (intOf i).toNat)
      case atStart => exact ⟨0, by omega, rfl, Lib.hid rfl⟩
      case round =>
        obtain ⟨j, hj, rfl, ha⟩ := hrel
        have hj0 : (0 : Int) ≤ (j : Int) := by omega
        by_cases hlt : j < hs.length
        · obtain ⟨b, off, rfl, _, hc⟩ := HH2.out.at_ hlt
          have hj1 : (j : Int) < (hs.length : Int) := by omega
          generalize hx : hs.getD j 0 = x at hc
          have HX := Lib.hid hx
          have XC := Lib.hid (l2Has_any 0 _ A2 c2 vs x hv w2 HV2.out)
          clear hx
          by_cases hm : decide (x ∈ vs) = true
          · have HM := Lib.hid hm
            clear hm
            go_wp2_with fail
            refine XC.out.mono ?_
            rintro e w3 ⟨he, rfl⟩
            rw [HM.out] at he
            subst he
            go_wp2
            go_round
            case rel => exact ⟨j + 1, by omega, by go_num, Lib.hid (by rw [inAll_take _ _ _ hlt, ha.out, HX.out, HM.out]; rfl)⟩
            case measure => simp [intOf]; omega
          · have HM := Lib.hid (show decide (x ∈ vs) = false by simpa using hm)
            clear hm
            go_wp2_with fail
            refine XC.out.mono ?_
            rintro e w3 ⟨he, rfl⟩
            rw [HM.out] at he
            subst he
            go_wp2
            go_ret
            exact ⟨ret_bool (by rw [EQ.out, inAll_not _ _ j hlt (by rw [HX.out]; exact HM.out)]; rfl), HB2.out⟩
        · obtain rfl : j = hs.length := by omega
          have HI := Lib.hid (show inAll vs hs = true by have := ha.out; rwa [take_all] at this)
          have XS := Lib.hid (spec_IsSchema 0 _ S cs s (by omega) w2 (show Ints w2 0 _ S s from HS.out.step HB2.out))
          clear ha
          by_cases c1 : schB s = true
          · have C1 := Lib.hid c1
            by_cases c2 : inB (l.length : Int) 1 4 = true
            · have C2 := Lib.hid c2
              by_cases c3 : hs.length ≤ 3
              · have c3' : (hs.length : Int) ≤ 3 := by omega
                have E := Lib.hid (show queryB s hs l = true by rw [EQ.out, HI.out]; rw [c1, c2]; simp [c3])
                clear c1 c2
                go_wp2_with fail
                refine XS.out.mono ?_
                rintro e w3 ⟨he, rfl⟩
                rw [C1.out] at he
                subst he
                go_wp2_with fail
                refine (l1In_any (l.length : Int) 1 4 _).mono ?_
                rintro e w3 ⟨he, rfl⟩
                rw [C2.out] at he
                subst he
                go_wp2
                go_ret
                exact ⟨ret_bool E.out.symm, HB2.out⟩
              · have c3' : ¬ (hs.length : Int) ≤ 3 := by omega
                have E := Lib.hid (show queryB s hs l = false by rw [EQ.out, HI.out]; rw [c1, c2]; simp [c3])
                clear c1 c2
                go_wp2_with fail
                refine XS.out.mono ?_
                rintro e w3 ⟨he, rfl⟩
                rw [C1.out] at he
                subst he
                go_wp2_with fail
                refine (l1In_any (l.length : Int) 1 4 _).mono ?_
                rintro e w3 ⟨he, rfl⟩
                rw [C2.out] at he
                subst he
                go_wp2
                go_ret
                exact ⟨ret_bool ((decide_eq_false (show ¬ (hs.length : Int) ≤ 3 by omega)).trans E.out.symm), HB2.out⟩
            · have C2 := Lib.hid (show inB (l.length : Int) 1 4 = false by simpa using c2)
              have E := Lib.hid (show queryB s hs l = false by rw [EQ.out, HI.out]; rw [C2.out]; simp)
              clear c1 c2
              go_wp2_with fail
              refine XS.out.mono ?_
              rintro e w3 ⟨he, rfl⟩
              rw [C1.out] at he
              subst he
              go_wp2_with fail
              refine (l1In_any (l.length : Int) 1 4 _).mono ?_
              rintro e w3 ⟨he, rfl⟩
              rw [C2.out] at he
              subst he
              go_wp2
              go_ret
              exact ⟨ret_bool E.out.symm, HB2.out⟩
          · have C1 := Lib.hid (show schB s = false by simpa using c1)
            have E := Lib.hid (show queryB s hs l = false by rw [EQ.out, HI.out]; rw [C1.out]; simp)
            clear c1
            go_wp2_with fail
            refine XS.out.mono ?_
            rintro e w3 ⟨he, rfl⟩
            rw [C1.out] at he
            subst he
            go_wp2
            go_ret
            exact ⟨ret_bool E.out.symm, HB2.out⟩
end Go.Proofs.Ytighalbnpgmdfaa

namespace Go.Proofs.Ytighalbnpgmdfaa
open Go.ChangeShapes Go.WideShapes Go.ChangeAt Go.RowKit Go.Sort
set_option linter.unusedVariables false
set_option linter.unusedSimpArgs false

abbrev noF : Int × List Int := (0, [])
/-- Is the value at position p of the terms known? -/
def canAt (ts bound : List Int) (p : Int) : Bool := inB p 0 ((ts.length : Int) - 1) && (!inB (ts.getD p.toNat 0) 10 17 || decide (ts.getD p.toNat 0 ∈ bound))
def canN (inp ts bound : List Int) (n : Nat) : Bool := (List.range n).all fun k => canAt ts bound (inp.getD k 0)
theorem canN_succ (inp ts bound : List Int) (k : Nat) : canN inp ts bound (k + 1) = (canN inp ts bound k && canAt ts bound (inp.getD k 0)) := by
  unfold canN
  rw [List.range_succ, List.all_append]
  simp
theorem canN_not (inp ts bound : List Int) (k n : Nat) (hk : k < n) (h : canAt ts bound (inp.getD k 0) = false) : canN inp ts bound n = false := by
  unfold canN
  rw [List.all_eq_false]
  exact ⟨k, by simpa using hk, by rw [h]; simp⟩
def canB (r : Int) (inp : List Int) (ra : Int) (ts bound : List Int) : Bool := decide (r = ra) && canN inp ts bound inp.length
def canM (m : Met) (a : Int × List Int) (bound : List Int) : Bool := canB m.1 m.2.1 a.1 a.2 bound

/-- The atoms that are called, and the variables that are bound then. -/
def called (l : FL) (p : SL) : FL := p.map fun st => l.getD st.1.toNat noF
def bnd (l : FL) (p : SL) : List Int := wl 10 17 (terms (called l p))
theorem called_snoc (l : FL) (p : SL) (st : Int × Int) : called l (p ++ [st]) = called l p ++ [l.getD st.1.toNat noF] := by simp [called]
theorem terms_snoc (l : FL) (r : Int) (xs : List Int) : terms (l ++ [(r, xs)]) = terms l ++ xs := by simp [terms]
theorem bnd_nil (l : FL) : bnd l [] = [] := rfl
def usedB (p : SL) (i : Int) : Bool := decide (i ∈ p.map Prod.fst)
theorem usedB_snoc (p : SL) (st : Int × Int) (i : Int) : usedB (p ++ [st]) i = (usedB p i || decide (i = st.1)) := by
  rw [Bool.eq_iff_iff]
  simp only [usedB, List.map_append, List.mem_append, List.map_cons, List.map_nil, List.mem_singleton, Bool.or_eq_true, decide_eq_true_eq]
def miss (n : Nat) (p : SL) : List Nat := (List.range n).filter fun i => !usedB p (i : Int)
def firstsOf (ms : ML) (a : Int × List Int) (bound : List Int) (n : Nat) : List Nat := (List.range n).filter fun j => canM (ms.getD j noM) a bound
theorem firstsOf_yes {ms : ML} {a : Int × List Int} {bound : List Int} {k : Nat} (h : canM (ms.getD k noM) a bound = true) : firstsOf ms a bound (k + 1) = firstsOf ms a bound k ++ [k] := by
  unfold firstsOf
  rw [List.range_succ, List.filter_append, List.filter_cons, if_pos h, List.filter_nil]
theorem firstsOf_no {ms : ML} {a : Int × List Int} {bound : List Int} {k : Nat} (h : canM (ms.getD k noM) a bound = false) : firstsOf ms a bound (k + 1) = firstsOf ms a bound k := by
  unfold firstsOf
  rw [List.range_succ, List.filter_append, List.filter_cons, if_neg (by rw [h]; decide), List.filter_nil, List.append_nil]
/-- The possible next steps for the atoms in is. -/
def nextI (ms : ML) (l : FL) (bound : List Int) (is : List Nat) : SL := is.flatMap fun i => (firstsOf ms (l.getD i noF) bound ms.length).map fun j : Nat => ((i : Int), (j : Int))
def nextS (ms : ML) (l : FL) (p : SL) : SL := nextI ms l (bnd l p) (miss l.length p)
theorem nextI_snoc (ms : ML) (l : FL) (bound : List Int) (is : List Nat) (i : Nat) : nextI ms l bound (is ++ [i]) = nextI ms l bound is ++ (firstsOf ms (l.getD i noF) bound ms.length).map fun j : Nat => ((i : Int), (j : Int)) := by simp [nextI]
theorem miss_yes {n : Nat} {p : SL} (h : usedB p (n : Int) = false) : miss (n + 1) p = miss n p ++ [n] := by
  unfold miss
  rw [List.range_succ, List.filter_append]
  simp [h]
theorem miss_no {n : Nat} {p : SL} (h : usedB p (n : Int) = true) : miss (n + 1) p = miss n p := by
  unfold miss
  rw [List.range_succ, List.filter_append]
  simp [h]
theorem miss_len (n : Nat) (p : SL) : (miss n p).length ≤ n := by
  have := List.length_filter_le (fun i : Nat => !usedB p (i : Int)) (List.range n)
  simpa [miss] using this
theorem miss_mem {n : Nat} {p : SL} {i : Nat} : i ∈ miss n p ↔ i < n ∧ usedB p (i : Int) = false := by simp [miss]
theorem firstsOf_len (ms : ML) (a : Int × List Int) (bound : List Int) (n : Nat) : (firstsOf ms a bound n).length ≤ n := by
  have := List.length_filter_le (fun j : Nat => canM (ms.getD j noM) a bound) (List.range n)
  simpa [firstsOf] using this
theorem nextI_len (ms : ML) (l : FL) (bound : List Int) : ∀ is : List Nat, (nextI ms l bound is).length ≤ is.length * ms.length
  | [] => by simp [nextI]
  | i :: is => by
    have h1 := nextI_len ms l bound is
    have h2 := firstsOf_len ms (l.getD i noF) bound ms.length
    have h3 : (nextI ms l bound (i :: is)).length = (firstsOf ms (l.getD i noF) bound ms.length).length + (nextI ms l bound is).length := by
      show (List.flatMap _ (i :: is)).length = _
      rw [List.flatMap_cons, List.length_append, List.length_map]
      rfl
    rw [h3, List.length_cons, Nat.add_mul, Nat.one_mul]
    omega
theorem nextS_len (ms : ML) (l : FL) (p : SL) : (nextS ms l p).length ≤ l.length * ms.length :=
  Nat.le_trans (nextI_len ms l _ _) (Nat.mul_le_mul_right _ (miss_len _ _))

/-- Is the step possible behind p? -/
def stepOk (ms : ML) (l : FL) (p : SL) (st : Int × Int) : Bool := inB st.1 0 ((l.length : Int) - 1) && !usedB p st.1 && inB st.2 0 ((ms.length : Int) - 1) && canM (ms.getD st.2.toNat noM) (l.getD st.1.toNat noF) (bnd l p)
theorem nextS_mem (ms : ML) (l : FL) (p : SL) (a m : Int) : (a, m) ∈ nextS ms l p ↔ stepOk ms l p (a, m) = true := by
  unfold nextS nextI stepOk
  simp only [List.mem_flatMap, List.mem_map, Prod.mk.injEq, Bool.and_eq_true, Bool.not_eq_true', inB, decide_eq_true_eq, firstsOf, List.mem_filter, List.mem_range, miss_mem]
  constructor
  · rintro ⟨i, ⟨h1, h2⟩, j, ⟨h3, h4⟩, h5, h6⟩
    subst h5 h6
    refine ⟨⟨⟨⟨by omega, by omega⟩, h2⟩, by omega, by omega⟩, by simpa using h4⟩
  · rintro ⟨⟨⟨⟨h1, h2⟩, h3⟩, h4, h5⟩, h6⟩
    refine ⟨a.toNat, ⟨by omega, ?_⟩, m.toNat, ⟨by omega, h6⟩, by omega, by omega⟩
    rw [show ((a.toNat : Nat) : Int) = a by omega]
    exact h3

def ordN (ms : ML) (l : FL) (p : SL) (n : Nat) : Bool := (List.range n).all fun k => stepOk ms l (p.take k) (p.getD k (0, 0))
theorem ordN_succ (ms : ML) (l : FL) (p : SL) (k : Nat) : ordN ms l p (k + 1) = (ordN ms l p k && stepOk ms l (p.take k) (p.getD k (0, 0))) := by
  unfold ordN
  rw [List.range_succ, List.all_append]
  simp
theorem ordN_not (ms : ML) (l : FL) (p : SL) (k n : Nat) (hk : k < n) (h : stepOk ms l (p.take k) (p.getD k (0, 0)) = false) : ordN ms l p n = false := by
  unfold ordN
  rw [List.all_eq_false]
  exact ⟨k, by simpa using hk, by rw [h]; simp⟩
def ordB (s : List Int) (ms : ML) (hs : List Int) (l : FL) (p : SL) : Bool := aremB s ms && queryB s hs l && decide (p.length = l.length) && ordN ms l p p.length

theorem take_snoc (p : SL) {k : Nat} (hk : k < p.length) {st : Int × Int} (h : p.getD k (0, 0) = st) : p.take (k + 1) = p.take k ++ [st] := by
  rw [List.take_succ_eq_append_getElem hk]
  have : p[k] = p.getD k (0, 0) := by simp [List.getD_eq_getElem?_getD, hk]
  rw [this, h]

/-- One step more, the first possible one. -/
def stepG (ms : ML) (l : FL) (p : SL) : SL := p ++ (nextS ms l p).take 1
def gr (ms : ML) (l : FL) : Nat → SL
  | 0 => []
  | k + 1 => stepG ms l (gr ms l k)
theorem stepG_stuck {ms : ML} {l : FL} {p : SL} (h : nextS ms l p = []) : stepG ms l p = p := by simp [stepG, h]
theorem gr_stuck {ms : ML} {l : FL} {k : Nat} (h : nextS ms l (gr ms l k) = []) : ∀ j, gr ms l (k + j) = gr ms l k
  | 0 => rfl
  | j + 1 => by
    show stepG ms l (gr ms l (k + j)) = _
    rw [gr_stuck h j, stepG_stuck h]
theorem stepG_cons {ms : ML} {l : FL} {p : SL} {st : Int × Int} {r : SL} (h : nextS ms l p = st :: r) : stepG ms l p = p ++ [st] := by simp [stepG, h]

theorem filter_one {α : Type} [DecidableEq α] : ∀ (xs : List α) (P : α → Bool) (a : α), xs.Nodup → a ∈ xs → P a = true → (xs.filter fun x => P x && !decide (x = a)).length + 1 = (xs.filter P).length
  | [], _, _, _, h, _ => by cases h
  | x :: xs, P, a, hn, hm, hp => by
    have hn' := List.nodup_cons.1 hn
    by_cases e : x = a
    · subst e
      have hrest : xs.filter (fun y => P y && !decide (y = x)) = xs.filter P := List.filter_congr fun y hy => by
        have : y ≠ x := fun e => hn'.1 (e ▸ hy)
        simp [this]
      simp [List.filter_cons, hp, hrest]
    · have hm' : a ∈ xs := by
        rcases List.mem_cons.1 hm with h | h
        · exact absurd h.symm e
        · exact h
      have ih := filter_one xs P a hn'.2 hm' hp
      by_cases hx : P x = true
      · simp [List.filter_cons, hx, e]
        simpa using ih
      · have hx' : P x = false := by simpa using hx
        simp [List.filter_cons, hx']
        simpa using ih
theorem miss_step {n : Nat} {p : SL} {a m : Int} (h0 : 0 ≤ a) (h1 : a < n) (hu : usedB p a = false) : (miss n (p ++ [(a, m)])).length + 1 = (miss n p).length := by
  have := filter_one (List.range n) (fun i : Nat => !usedB p (i : Int)) a.toNat List.nodup_range (by simp; omega) (by rw [show ((a.toNat : Nat) : Int) = a by omega, hu]; rfl)
  rw [← miss] at this
  rw [← this]
  congr 2
  unfold miss
  refine List.filter_congr fun i _ => ?_
  rw [usedB_snoc, Bool.not_or]
  congr 2
  simp only [decide_eq_decide]
  omega
/-- Steps so far and atoms without one: all atoms. -/
def FullM (l : FL) (p : SL) : Prop := p.length + (miss l.length p).length = l.length
theorem miss_nil (n : Nat) : miss n [] = List.range n := by
  unfold miss
  rw [List.filter_eq_self]
  intro i _
  rfl
theorem FullM.nil (l : FL) : FullM l [] := by unfold FullM; rw [miss_nil]; simp
theorem FullM.snoc {ms : ML} {l : FL} {p : SL} {a m : Int} (h : FullM l p) (hs : stepOk ms l p (a, m) = true) : FullM l (p ++ [(a, m)]) := by
  unfold stepOk at hs
  simp only [Bool.and_eq_true, Bool.not_eq_true', inB, decide_eq_true_eq] at hs
  have := miss_step (m := m) (p := p) (n := l.length) hs.1.1.1.1 (by omega) hs.1.1.2
  unfold FullM at h ⊢
  rw [List.length_append, List.length_singleton]
  omega
theorem FullM.next {ms : ML} {l : FL} {p : SL} (h : FullM l p) (hs : p.length = l.length) : nextS ms l p = [] := by
  have : (miss l.length p).length = 0 := by unfold FullM at h; omega
  rw [List.length_eq_zero_iff] at this
  unfold nextS
  rw [this]
  rfl
theorem FullM.lt {ms : ML} {l : FL} {p : SL} (h : FullM l p) (hs : nextS ms l p ≠ []) : p.length < l.length := by
  rcases Nat.lt_or_ge p.length l.length with h1 | h1
  · exact h1
  · exact absurd (h.next (by unfold FullM at h; omega)) hs
theorem gr_full (ms : ML) (l : FL) : ∀ k, FullM l (gr ms l k)
  | 0 => FullM.nil l
  | k + 1 => by
    have ih := gr_full ms l k
    show FullM l (stepG ms l (gr ms l k))
    rcases h : nextS ms l (gr ms l k) with _ | ⟨⟨a, m⟩, r⟩
    · rw [stepG_stuck h]; exact ih
    · rw [stepG_cons h]
      exact ih.snoc ((nextS_mem ms l _ a m).1 (by rw [h]; simp))
theorem gr_len (ms : ML) (l : FL) (k : Nat) : (gr ms l k).length ≤ l.length := by
  have := gr_full ms l k
  unfold FullM at this
  omega
theorem gr_le (ms : ML) (l : FL) : ∀ k, (gr ms l k).length ≤ k
  | 0 => Nat.le_refl _
  | k + 1 => by
    have ih := gr_le ms l k
    show (stepG ms l (gr ms l k)).length ≤ _
    unfold stepG
    rw [List.length_append, List.length_take]
    omega
/-- Nothing is possible behind as many steps as there are atoms. -/
theorem gr_end (ms : ML) (l : FL) : nextS ms l (gr ms l l.length) = [] := by
  have key : ∀ k, (gr ms l k).length = k ∨ nextS ms l (gr ms l k) = [] := by
    intro k
    induction k with
    | zero => exact .inl rfl
    | succ k ih =>
      rcases h : nextS ms l (gr ms l k) with _ | ⟨st, r⟩
      · right
        show nextS ms l (stepG ms l (gr ms l k)) = []
        rw [stepG_stuck h, h]
      · rcases ih with ih | ih
        · left
          show (stepG ms l (gr ms l k)).length = _
          rw [stepG_cons h, List.length_append, ih]
          rfl
        · rw [ih] at h; cases h
  rcases key l.length with h | h
  · exact (gr_full ms l _).next h
  · exact h
def firstS (ms : ML) (l : FL) : SL := gr ms l l.length
theorem gr_stop {ms : ML} {l : FL} {k : Nat} (hk : k ≤ l.length) (h : nextS ms l (gr ms l k) = []) : gr ms l k = firstS ms l := by
  have := gr_stuck h (l.length - k)
  rw [show k + (l.length - k) = l.length by omega] at this
  exact this.symm
theorem stepOk_rng {ms : ML} {l : FL} {p : SL} {a m : Int} (h : stepOk ms l p (a, m) = true) : 0 ≤ a ∧ a < l.length ∧ 0 ≤ m ∧ m < ms.length := by
  unfold stepOk at h
  simp only [Bool.and_eq_true, Bool.not_eq_true', inB, decide_eq_true_eq] at h
  omega
/-- All atoms of the steps exist. -/
def InP (l : FL) (ms : ML) (p : SL) : Prop := ∀ st ∈ p, 0 ≤ st.1 ∧ st.1 < l.length ∧ 0 ≤ st.2 ∧ st.2 < ms.length
theorem InP.nil (l : FL) (ms : ML) : InP l ms [] := fun st h => by cases h
theorem InP.snoc {l : FL} {ms : ML} {p : SL} {a m : Int} (h : InP l ms p) (hs : stepOk ms l p (a, m) = true) : InP l ms (p ++ [(a, m)]) := fun st hst => by
  rcases List.mem_append.1 hst with h1 | h1
  · exact h st h1
  · simp only [List.mem_singleton] at h1
    subst h1
    exact stepOk_rng hs
theorem InP.at_ {l : FL} {ms : ML} {p : SL} (h : InP l ms p) {k : Nat} (hk : k < p.length) {a m : Int} (hf : p.getD k (0, 0) = (a, m)) : 0 ≤ a ∧ a < l.length ∧ 0 ≤ m ∧ m < ms.length := by
  have : (a, m) ∈ p := by
    rw [← hf, List.getD_eq_getElem?_getD, List.getElem?_eq_getElem hk]
    exact List.getElem_mem _
  exact h _ this
theorem gr_in (ms : ML) (l : FL) : ∀ k, InP l ms (gr ms l k)
  | 0 => InP.nil l ms
  | k + 1 => by
    have ih := gr_in ms l k
    show InP l ms (stepG ms l (gr ms l k))
    rcases h : nextS ms l (gr ms l k) with _ | ⟨⟨a, m⟩, r⟩
    · rw [stepG_stuck h]; exact ih
    · rw [stepG_cons h]
      exact ih.snoc ((nextS_mem ms l _ a m).1 (by rw [h]; simp))

/-- A step's cost. -/
def costOf (ms : ML) (m : Int) : Int := if inB m 0 ((ms.length : Int) - 1) && inB (ms.getD m.toNat noM).2.2.2.1 0 99 then (ms.getD m.toNat noM).2.2.2.1 else 0
theorem costOf_rng (ms : ML) (m : Int) : 0 ≤ costOf ms m ∧ costOf ms m ≤ 99 := by
  unfold costOf
  split
  · rename_i h
    simp only [Bool.and_eq_true, inB, decide_eq_true_eq] at h
    omega
  · omega
def costN (ms : ML) (p : SL) : Int := (p.map fun st => costOf ms st.2).sum
theorem costN_take (ms : ML) (p : SL) {k : Nat} (hk : k < p.length) {a m : Int} (hf : p.getD k (0, 0) = (a, m)) : costN ms (p.take (k + 1)) = costN ms (p.take k) + costOf ms m := by
  unfold costN
  rw [take_snoc p hk hf, List.map_append, List.sum_append]
  simp
theorem costN_rng (ms : ML) : ∀ p : SL, 0 ≤ costN ms p ∧ costN ms p ≤ 99 * (p.length : Int)
  | [] => by simp [costN]
  | st :: p => by
    have h1 := costN_rng ms p
    have h2 := costOf_rng ms st.2
    have e : costN ms (st :: p) = costOf ms st.2 + costN ms p := by simp [costN]
    rw [e, List.length_cons]
    omega
end Go.Proofs.Ytighalbnpgmdfaa
