/- What the functions on a query's head and on queries answer. Conditions: none beyond each theorem's own. What the two functions IsQuery answer. Conditions: none beyond each theorem's own. What a query and facts that are valid give: few answers of few digits. Conditions: none beyond each theorem's own. -/
import Derived.Test.YtimlpdcambmcjaaGreatS20
import Derived.Test.YtimlpdcambmcjaaGreatS7
import Derived.Test.YtimlpdcambmcjaaGreatS4

namespace Go.Proofs.YtimlpdcambmcjaaGreat
open Go.ChangeShapes Go.WideShapes Go.ChangeAt Go.RowKit Go.Sort
open Go.Proofs.YtimlpdcambmcjaaGreat.atom
set_option linter.unusedVariables false
set_option linter.unusedSimpArgs false

/-- Are all numbers of the head among vs? -/
def inAll (vs hs : List Int) : Bool := hs.all fun x => decide (x ∈ vs)
theorem inAll_take (vs hs : List Int) (k : Nat) (hk : k < hs.length) : inAll vs (hs.take (k + 1)) = (inAll vs (hs.take k) && decide (hs.getD k 0 ∈ vs)) := by
  unfold inAll
  rw [List.take_succ_eq_append_getElem hk, List.all_append]
  simp [List.getD_eq_getElem?_getD, hk]
theorem inAll_not (vs hs : List Int) (k : Nat) (hk : k < hs.length) (h : decide (hs.getD k 0 ∈ vs) = false) : inAll vs hs = false := by
  unfold inAll
  rw [List.all_eq_false]
  refine ⟨hs[k], List.getElem_mem _, ?_⟩
  have : hs.getD k 0 = hs[k] := by simp [List.getD_eq_getElem?_getD, hk]
  rw [this] at h
  simp [h]
/-- Is hs a head for the atoms l? -/
def headB (hs : List Int) (l : FL) : Bool := decide (hs.length ≤ 3) && inAll (wl 10 17 (terms l)) hs

/-- A place of x in v, or a negative number. -/
def IdxOut (w : World) (v : List Int) (x : Int) (e : Ending) (w' : World) : Prop := (∃ n : Int, e = .returned (.int .i64 n) ∧ decide (0 ≤ n) = decide (x ∈ v)) ∧ w = w'

set_option maxRecDepth 100000 in
set_option maxHeartbeats 400000 in
theorem index_any (lo hi : Nat) (A : Option Addr) (c : Nat) (v : List Int) (x : Int) (hl : v.length ≤ 1048576) (w : World) (h : Ints w lo hi A v) :
    Calls Tryz.prog 152 #[.slice A v.length c, .int .i64 x] w (IdxOut w v x) := by
  have HI := Lib.hid h
  clear h
  have hl' : (v.length : Int) ≤ 1048576 := by omega
  go_enter Tryz.func152, Tryz.ntmps152
  go_wp2
  go_loop [5, 8] (fun _ i => ∃ k : Nat, k ≤ v.length ∧ i = .int .i64 k ∧ Hid (x ∉ v.take k)) (fun _ i => v.length - (intOf i).toNat)
  case atStart => exact ⟨0, by omega, rfl, Lib.hid (by simp)⟩
  case round =>
    obtain ⟨k, hk, rfl, ha⟩ := hrel
    by_cases hlt : k < v.length
    · obtain ⟨b, off, rfl, _, _, hc⟩ := HI.out.at_ hlt
      generalize hz : v.getD k 0 = z at hc
      have HT := Lib.hid (takeI v hlt hz)
      have HM := Lib.hid (show z ∈ v by subst hz; rw [List.getD_eq_getElem?_getD, List.getElem?_eq_getElem hlt]; exact List.getElem_mem _)
      clear hz
      by_cases he : x = z
      · subst he
        go_wp2
        go_ret
        exact ⟨⟨_, rfl, by rw [decide_eq_true HM.out]; simp⟩, rfl⟩
      · have d1 : (x == z) = false := by simpa using he
        go_wp2
        go_round
        case rel => exact ⟨k + 1, by omega, by go_num, Lib.hid (by rw [HT.out]; simp only [List.mem_append, List.mem_singleton, not_or]; exact ⟨ha.out, he⟩)⟩
        case measure => simp [intOf]; omega
    · obtain rfl : k = v.length := by omega
      go_wp2
      go_ret
      exact ⟨⟨_, rfl, by have := ha.out; rw [take_all] at this; rw [decide_eq_false this]; rfl⟩, rfl⟩
set_option maxRecDepth 100000 in
theorem contains_any (lo hi : Nat) (A : Option Addr) (c : Nat) (v : List Int) (x : Int) (hl : v.length ≤ 1048576) (w : World) (h : Ints w lo hi A v) :
    Calls Tryz.prog 124 #[.slice A v.length c, .int .i64 x] w fun e w' => e = .returned (.bool (decide (x ∈ v))) ∧ w = w' := by
  have XI := Lib.hid (index_any lo hi A c v x hl w h)
  clear h
  go_enter Tryz.func124, Tryz.ntmps124
  go_wp2_with fail
  refine XI.out.mono ?_
  rintro e w1 ⟨⟨n, rfl, hn⟩, rfl⟩
  have HN := Lib.hid hn
  clear hn
  go_wp2
  go_ret
  exact ⟨ret_bool HN.out, rfl⟩

set_option maxRecDepth 100000 in
set_option maxHeartbeats 1000000 in
theorem isHead_any (H A : Option Addr) (ch c : Nat) (hs : List Int) (l : FL) (hh : hs.length ≤ 1048577) (hz : szF l ≤ 1048576) (w : World) (h : RI w H hs) (h' : RF w A l) :
    Calls Tryz.prog 87 #[.agg #[.slice H hs.length ch, .slice A l.length c]] w fun e w' => e = .returned (.bool (headB hs l)) ∧ Below w.heap.size w w' := by
  have hh' : (hs.length : Int) ≤ 1048577 := by omega
  have B0 := Lib.hid (below_alloc w (.cells #[.slice H hs.length ch, .slice A l.length c] 29))
  have HI := Lib.hid h
  have XV := Lib.hid ((impl_VarsOf H A ch c hs l hz _ (h'.step B0.out)).mono fun _ _ h => h.toG)
  have X0 := Lib.hid (Box.new w #[.slice H hs.length ch, .slice A l.length c] 29)
  have HV := Lib.hid (wl_len 10 17 (terms l))
  clear h h'
  by_cases h3 : hs.length ≤ 3
  · have h3' : (hs.length : Int) ≤ 3 := by omega
    have E := Lib.hid (show headB hs l = inAll (wl 10 17 (terms l)) hs by simp [headB, h3])
    rw [E.out]
    have hv : (wl 10 17 (terms l)).length ≤ 1048576 := by have := HV.out; omega
    generalize wl 10 17 (terms l) = vs at XV hv
    clear HV E
    go_enter Tryz.func87, Tryz.ntmps87
    go_wp2_with fail
    refine XV.out.mono ?_
    rintro e w1 ⟨A1, c1, rfl, hg, d⟩
    have B1 := Lib.hid (step B0.out d)
    have X1 := X0.out.step d
    have x0 := X1.cell 0
    simp only [List.getElem?_toArray, List.getElem?_cons_zero, List.getElem?_cons_succ] at x0
    have HG := Lib.hid hg.ri
    have HI1 := Lib.hid (HI.out.step B1.out)
    clear hg d X1
    go_wp2
    go_loop [5, 15] (fun _ i => ∃ k : Nat, k ≤ hs.length ∧ i = .int .i64 k ∧ Hid (inAll vs (hs.take k) = true)) (fun _ i => hs.length - (intOf i).toNat)
    case atStart => exact ⟨0, by omega, rfl, Lib.hid rfl⟩
    case round =>
      obtain ⟨k, hk, rfl, ha⟩ := hrel
      by_cases hlt : k < hs.length
      · obtain ⟨b, off, rfl, _, hc⟩ := HI1.out.at_ hlt
        generalize hx : hs.getD k 0 = x at hc
        have HX := Lib.hid hx
        have XC := Lib.hid (contains_any 0 _ A1 c1 vs x hv w1 HG.out)
        clear hx
        by_cases hm : decide (x ∈ vs) = true
        · have HM := Lib.hid hm
          clear hm
          go_wp2_with fail
          refine XC.out.mono ?_
          rintro e w2 ⟨he, rfl⟩
          rw [HM.out] at he
          subst he
          go_wp2
          go_round
          case rel => exact ⟨k + 1, by omega, by go_num, Lib.hid (by rw [inAll_take _ _ _ hlt, ha.out, HX.out, HM.out]; rfl)⟩
          case measure => simp [intOf]; omega
        · have HM := Lib.hid (show decide (x ∈ vs) = false by simpa using hm)
          clear hm
          go_wp2_with fail
          refine XC.out.mono ?_
          rintro e w2 ⟨he, rfl⟩
          rw [HM.out] at he
          subst he
          go_wp2
          go_ret
          exact ⟨ret_bool (inAll_not _ _ k hlt (by rw [HX.out]; exact HM.out)).symm, B1.out⟩
      · obtain rfl : k = hs.length := by omega
        go_wp2
        go_ret
        exact ⟨ret_bool (by have := ha.out; rw [take_all] at this; rw [this]), B1.out⟩
  · have h3' : 3 < (hs.length : Int) := by omega
    have E := Lib.hid (show headB hs l = false by simp [headB, h3])
    rw [E.out]
    go_enter Tryz.func87, Tryz.ntmps87
    go_wp2
    go_ret
    exact ⟨rfl, B0.out⟩
end Go.Proofs.YtimlpdcambmcjaaGreat

namespace Go.Proofs.YtimlpdcambmcjaaGreat
open Go.ChangeShapes Go.WideShapes Go.ChangeAt Go.RowKit Go.Sort
open Go.Proofs.YtimlpdcambmcjaaGreat.atom
set_option linter.unusedVariables false
set_option linter.unusedSimpArgs false

/-- Are all of l atoms of the schema s? -/
def atomsB (s : List Int) (l : FL) : Bool := l.all fun f => atom.factB s f.1 f.2
theorem atomsB_take (s : List Int) (l : FL) (k : Nat) (hk : k < l.length) {r : Int} {xs : List Int} (hf : l.getD k (0, []) = (r, xs)) : atomsB s (l.take (k + 1)) = (atomsB s (l.take k) && atom.factB s r xs) := by
  unfold atomsB
  rw [List.take_succ_eq_append_getElem hk, List.all_append]
  have : l[k] = l.getD k (0, []) := by simp [List.getD_eq_getElem?_getD, hk]
  rw [this, hf]
  simp
theorem atomsB_not (s : List Int) (l : FL) (k : Nat) (hk : k < l.length) {r : Int} {xs : List Int} (hf : l.getD k (0, []) = (r, xs)) (h : atom.factB s r xs = false) : atomsB s l = false := by
  unfold atomsB
  rw [List.all_eq_false]
  refine ⟨l[k], List.getElem_mem _, ?_⟩
  have : l.getD k (0, []) = l[k] := by simp [List.getD_eq_getElem?_getD, hk]
  rw [← this, hf]
  simp [h]
/-- Is (hs, l) a query of the schema s? -/
def queryB (s hs : List Int) (l : FL) : Bool := atomsB s l && inAll (wl 10 17 (terms l)) hs && schB s && inB (l.length : Int) 1 4 && decide (hs.length ≤ 3)
theorem atomsB_sch {s : List Int} {l : FL} (h : atomsB s l = true) (hl : 0 < l.length) : schB s = true := by
  unfold atomsB at h
  rw [List.all_eq_true] at h
  have := h l[0] (List.getElem_mem _)
  unfold atom.factB at this
  simp only [Bool.and_eq_true] at this
  exact this.1.1.1
theorem queryB_i (s hs : List Int) (l : FL) : queryB s hs l = (inB (l.length : Int) 1 4 && headB hs l && atomsB s l) := by
  unfold queryB headB
  by_cases h1 : inB (l.length : Int) 1 4 = true
  · by_cases h2 : atomsB s l = true
    · have h3 : 1 ≤ (l.length : Int) ∧ (l.length : Int) ≤ 4 := by simpa [inB] using h1
      rw [h1, h2, atomsB_sch h2 (by omega)]
      simp [Bool.and_comm]
    · have h2' : atomsB s l = false := by simpa using h2
      simp [h2']
  · have h1' : inB (l.length : Int) 1 4 = false := by simpa using h1
    simp [h1']

set_option maxRecDepth 100000 in
set_option maxHeartbeats 1000000 in
theorem impl_IsQuery (S H A : Option Addr) (cs ch c : Nat) (s hs : List Int) (l : FL) (hls : s.length ≤ 1048576) (hh : hs.length ≤ 1048577) (hz : szF l ≤ 1048576) (w : World) (hS : RI w S s) (h : RI w H hs) (h' : RF w A l) :
    Calls Tryz.prog 43 #[.slice S s.length cs, .agg #[.slice H hs.length ch, .slice A l.length c]] w fun e w' => e = .returned (.bool (queryB s hs l)) ∧ Below w.heap.size w w' := by
  have hl := szF_len hz
  have hl' : (l.length : Int) ≤ 1048576 := by omega
  have B0 := Lib.hid (below_alloc w (.cells #[.slice H hs.length ch, .slice A l.length c] 29))
  have X0 := Lib.hid (Box.new w #[.slice H hs.length ch, .slice A l.length c] 29)
  have XH := Lib.hid (isHead_any H A ch c hs l hh hz _ (h.step B0.out) (h'.step B0.out))
  have HS := Lib.hid hS
  have HF := Lib.hid h'
  clear hS h h'
  rw [queryB_i]
  by_cases c1 : inB (l.length : Int) 1 4 = true
  · have C1 := Lib.hid c1
    by_cases c2 : headB hs l = true
    · have C2 := Lib.hid c2
      have E := Lib.hid (show (inB (l.length : Int) 1 4 && headB hs l && atomsB s l) = atomsB s l by rw [c1, c2]; simp)
      rw [E.out]
      clear c1 c2 E
      go_enter Tryz.func43, Tryz.ntmps43
      go_wp2_with fail
      refine (isBetween_any (l.length : Int) 1 4 _).mono ?_
      rintro e w1 ⟨he, rfl⟩
      rw [C1.out] at he
      subst he
      go_wp2_with fail
      refine XH.out.mono ?_
      rintro e w1 ⟨he, d⟩
      rw [C2.out] at he
      subst he
      have X1 := X0.out.step d
      have x1 := X1.cell 1
      simp only [List.getElem?_toArray, List.getElem?_cons_zero, List.getElem?_cons_succ] at x1
      have B1 := Lib.hid (step B0.out d)
      clear d X1
      go_wp2
      go_loopw [6, 20] (fun _ i wr => ∃ k : Nat, k ≤ l.length ∧ i = .int .i64 k ∧ Hid (atomsB s (l.take k) = true) ∧ Hid (Below w.heap.size w wr)) (fun _ i _ => l.length - (intOf i).toNat)
      case atStart => exact ⟨0, by omega, rfl, Lib.hid rfl, B1⟩
      case round =>
        obtain ⟨k, hk, rfl, ha, hB⟩ := hrel
        have hk0 : (0 : Int) ≤ (k : Int) := by omega
        by_cases hlt : k < l.length
        · generalize hf : l.getD k (0, []) = f
          obtain ⟨r, xs⟩ := f
          have hxl : xs.length ≤ 1048576 := by have := szF_elem hz hlt; rw [hf] at this; exact this
          have HT := Lib.hid (atomsB_take s l k hlt hf)
          have HN := Lib.hid fun (h : atom.factB s r xs = false) => atomsB_not s l k hlt hf h
          have hk1 : (k : Int) < (l.length : Int) := by omega
          obtain ⟨b, off, B, c3, rfl, hb, e0, e1, _, hcm, hJ⟩ := HF.out.at_ hlt hf
          have q0 := (hB.out.cell (p := ⟨b, off + k * 2, none⟩) hb).trans e0
          have q1 := (hB.out.cell (p := ⟨b, off + k * 2 + 1, none⟩) hb).trans e1
          have BA := below_alloc wr (.cells #[.int .i64 r, .slice B xs.length c3] 67)
          have B2 := step hB.out BA
          have XA := Lib.hid (impl_IsAtom_r S cs s r xs B c3 (by omega) (by omega) _ (HS.out.step B2) (hJ.step B2))
          have HB2 := Lib.hid B2
          clear hf e0 e1 hJ BA B2
          by_cases c3 : atom.factB s r xs = true
          · have C3 := Lib.hid c3
            clear c3
            go_wp2_with fail
            refine XA.out.mono ?_
            rintro e w2 ⟨he, d⟩
            rw [C3.out] at he
            subst he
            have HB3 := Lib.hid (step HB2.out d)
            clear d
            go_wp2
            go_roundw
            case rel => exact ⟨k + 1, by omega, by go_num, Lib.hid (by rw [HT.out, ha.out, C3.out]; rfl), HB3⟩
            case measure => simp [intOf]; omega
          · have C3 := Lib.hid (show atom.factB s r xs = false by simpa using c3)
            clear c3
            go_wp2_with fail
            refine XA.out.mono ?_
            rintro e w2 ⟨he, d⟩
            rw [C3.out] at he
            subst he
            have HB3 := Lib.hid (step HB2.out d)
            clear d
            go_wp2
            go_ret
            exact ⟨ret_bool (HN.out C3.out).symm, HB3.out⟩
        · obtain rfl : k = l.length := by omega
          go_wp2
          go_ret
          exact ⟨ret_bool (by have := ha.out; rw [take_all] at this; rw [this]), hB.out⟩
    · have C2 := Lib.hid (show headB hs l = false by simpa using c2)
      have E := Lib.hid (show (inB (l.length : Int) 1 4 && headB hs l && atomsB s l) = false by rw [C2.out]; simp)
      rw [E.out]
      clear c1 c2 E
      go_enter Tryz.func43, Tryz.ntmps43
      go_wp2_with fail
      refine (isBetween_any (l.length : Int) 1 4 _).mono ?_
      rintro e w1 ⟨he, rfl⟩
      rw [C1.out] at he
      subst he
      go_wp2_with fail
      refine XH.out.mono ?_
      rintro e w1 ⟨he, d⟩
      rw [C2.out] at he
      subst he
      have B1 := Lib.hid (step B0.out d)
      clear d
      go_wp2
      go_ret
      exact ⟨rfl, B1.out⟩
  · have C1 := Lib.hid (show inB (l.length : Int) 1 4 = false by simpa using c1)
    have E := Lib.hid (show (inB (l.length : Int) 1 4 && headB hs l && atomsB s l) = false by rw [C1.out]; simp)
    rw [E.out]
    clear c1 E
    go_enter Tryz.func43, Tryz.ntmps43
    go_wp2_with fail
    refine (isBetween_any (l.length : Int) 1 4 _).mono ?_
    rintro e w1 ⟨he, rfl⟩
    rw [C1.out] at he
    subst he
    go_wp2
    go_ret
    exact ⟨rfl, B0.out⟩

set_option maxRecDepth 100000 in
set_option maxHeartbeats 1000000 in
theorem spec_IsQuery (S H A : Option Addr) (cs ch c : Nat) (s hs : List Int) (l : FL) (hls : s.length ≤ 1048576) (hh : hs.length ≤ 1048577) (hz : szF l ≤ 1048576) (w : World) (hS : RI w S s) (h : RI w H hs) (h' : RF w A l) :
    Calls Tryz.prog 38 #[.slice S s.length cs, .agg #[.slice H hs.length ch, .slice A l.length c]] w fun e w' => e = .returned (.bool (queryB s hs l)) ∧ Below w.heap.size w w' := by
  have hl := szF_len hz
  have hl' : (l.length : Int) ≤ 1048576 := by omega
  have hh' : (hs.length : Int) ≤ 1048577 := by omega
  have B0 := Lib.hid (below_alloc w (.cells #[.slice H hs.length ch, .slice A l.length c] 29))
  have X0 := Lib.hid (Box.new w #[.slice H hs.length ch, .slice A l.length c] 29)
  have HS := Lib.hid hS
  have HH := Lib.hid h
  have HF := Lib.hid h'
  have HV := Lib.hid (wl_len 10 17 (terms l))
  have CV := Lib.hid fun (W : World) (hW : RF W A l) => (spec_VarsOf H A ch c hs l hz W hW).mono fun _ _ h => h.toV
  clear hS h h'
  go_enter Tryz.func38, Tryz.ntmps38
  go_wp2
  go_loopw [5] (fun i wr => ∃ k : Nat, k ≤ l.length ∧ i = .int .i64 k ∧ Hid (atomsB s (l.take k) = true) ∧ Hid (Below w.heap.size w wr) ∧ Hid (Box wr w.heap.size #[.slice H hs.length ch, .slice A l.length c] 29)) (fun i _ => l.length - (intOf i).toNat)
  case atStart => exact ⟨0, by omega, rfl, Lib.hid rfl, B0, X0⟩
  case round =>
    obtain ⟨k, hk, rfl, ha, hB, hX⟩ := hrel
    have hk0 : (0 : Int) ≤ (k : Int) := by omega
    have g0 := hX.out.cell 0
    have g1 := hX.out.cell 1
    simp only [List.getElem?_toArray, List.getElem?_cons_zero, List.getElem?_cons_succ] at g0 g1
    by_cases hlt : k < l.length
    · generalize hf : l.getD k (0, []) = f
      obtain ⟨r, xs⟩ := f
      have hxl : xs.length ≤ 1048576 := by have := szF_elem hz hlt; rw [hf] at this; exact this
      have HT := Lib.hid (atomsB_take s l k hlt hf)
      have HN := Lib.hid fun (h : atom.factB s r xs = false) => atomsB_not s l k hlt hf h
      have hk1 : (k : Int) < (l.length : Int) := by omega
      obtain ⟨b, off, B, c3, rfl, hb, e0, e1, _, hcm, hJ⟩ := HF.out.at_ hlt hf
      have q0 := (hB.out.cell (p := ⟨b, off + k * 2, none⟩) hb).trans e0
      have q1 := (hB.out.cell (p := ⟨b, off + k * 2 + 1, none⟩) hb).trans e1
      have XA := Lib.hid (spec_IsAtom_r S cs s r xs B c3 (by omega) (by omega) _ (HS.out.step hB.out) (hJ.step hB.out))
      clear hf e0 e1 hJ g0
      by_cases c3 : atom.factB s r xs = true
      · have C3 := Lib.hid c3
        clear c3
        go_wp2_with fail
        refine XA.out.mono ?_
        rintro e w2 ⟨he, d⟩
        rw [C3.out] at he
        subst he
        have HB3 := Lib.hid (step hB.out d)
        have HX3 := Lib.hid (hX.out.step d)
        clear d g1 q0 q1
        go_wp2
        go_roundw
        case rel => exact ⟨k + 1, by omega, by go_num, Lib.hid (by rw [HT.out, ha.out, C3.out]; rfl), HB3, HX3⟩
        case measure => simp [intOf]; omega
      · have C3 := Lib.hid (show atom.factB s r xs = false by simpa using c3)
        clear c3
        go_wp2_with fail
        refine XA.out.mono ?_
        rintro e w2 ⟨he, d⟩
        rw [C3.out] at he
        subst he
        have HB3 := Lib.hid (step hB.out d)
        clear d g1 q0 q1
        go_wp2
        go_ret
        exact ⟨ret_bool (by unfold queryB; rw [HN.out C3.out]; rfl), HB3.out⟩
    · obtain rfl : k = l.length := by omega
      have HA := Lib.hid (show atomsB s l = true by have := ha.out; rwa [take_all] at this)
      have hv : (wl 10 17 (terms l)).length ≤ 1048576 := by have := HV.out; omega
      have EQ := Lib.hid (show queryB s hs l = (inAll (wl 10 17 (terms l)) hs && schB s && inB (l.length : Int) 1 4 && decide (hs.length ≤ 3)) by unfold queryB; rw [HA.out]; simp)
      generalize wl 10 17 (terms l) = vs at CV hv EQ
      clear ha HV
      go_wp2_with fail
      refine (CV.out _ (HF.out.step hB.out)).mono ?_
      rintro e w2 ⟨A2, c2, rfl, hi2, d⟩
      have HV2 := Lib.hid hi2.ri
      have HB2 := Lib.hid (step hB.out d)
      have HX2 := Lib.hid (hX.out.step d)
      have HH2 := Lib.hid (HH.out.step (step hB.out d))
      clear g0 g1
      have g0 := HX2.out.cell 0
      have g1 := HX2.out.cell 1
      simp only [List.getElem?_toArray, List.getElem?_cons_zero, List.getElem?_cons_succ] at g0 g1
      clear hi2 d
      go_wp2
      go_loop [7] (fun i => ∃ j : Nat, j ≤ hs.length ∧ i = .int .i64 j ∧ Hid (inAll vs (hs.take j) = true)) (fun i => hs.length - (intOf i).toNat)
      case atStart => exact ⟨0, by omega, rfl, Lib.hid rfl⟩
      case round =>
        obtain ⟨j, hj, rfl, ha⟩ := hrel
        have hj0 : (0 : Int) ≤ (j : Int) := by omega
        by_cases hlt : j < hs.length
        · obtain ⟨b, off, rfl, _, hc⟩ := HH2.out.at_ hlt
          have hj1 : (j : Int) < (hs.length : Int) := by omega
          generalize hx : hs.getD j 0 = x at hc
          have HX := Lib.hid hx
          have XC := Lib.hid (l2Has_any 0 _ A2 c2 vs x hv w2 HV2.out)
          clear hx
          by_cases hm : decide (x ∈ vs) = true
          · have HM := Lib.hid hm
            clear hm
            go_wp2_with fail
            refine XC.out.mono ?_
            rintro e w3 ⟨he, rfl⟩
            rw [HM.out] at he
            subst he
            go_wp2
            go_round
            case rel => exact ⟨j + 1, by omega, by go_num, Lib.hid (by rw [inAll_take _ _ _ hlt, ha.out, HX.out, HM.out]; rfl)⟩
            case measure => simp [intOf]; omega
          · have HM := Lib.hid (show decide (x ∈ vs) = false by simpa using hm)
            clear hm
            go_wp2_with fail
            refine XC.out.mono ?_
            rintro e w3 ⟨he, rfl⟩
            rw [HM.out] at he
            subst he
            go_wp2
            go_ret
            exact ⟨ret_bool (by rw [EQ.out, inAll_not _ _ j hlt (by rw [HX.out]; exact HM.out)]; rfl), HB2.out⟩
        · obtain rfl : j = hs.length := by omega
          have HI := Lib.hid (show inAll vs hs = true by have := ha.out; rwa [take_all] at this)
          have XS := Lib.hid (spec_IsSchema 0 _ S cs s (by omega) w2 (show Ints w2 0 _ S s from HS.out.step HB2.out))
          clear ha
          by_cases c1 : schB s = true
          · have C1 := Lib.hid c1
            by_cases c2 : inB (l.length : Int) 1 4 = true
            · have C2 := Lib.hid c2
              by_cases c3 : hs.length ≤ 3
              · have c3' : (hs.length : Int) ≤ 3 := by omega
                have E := Lib.hid (show queryB s hs l = true by rw [EQ.out, HI.out]; rw [c1, c2]; simp [c3])
                clear c1 c2
                go_wp2_with fail
                refine XS.out.mono ?_
                rintro e w3 ⟨he, rfl⟩
                rw [C1.out] at he
                subst he
                go_wp2_with fail
                refine (l1In_any (l.length : Int) 1 4 _).mono ?_
                rintro e w3 ⟨he, rfl⟩
                rw [C2.out] at he
                subst he
                go_wp2
                go_ret
                exact ⟨ret_bool E.out.symm, HB2.out⟩
              · have c3' : ¬ (hs.length : Int) ≤ 3 := by omega
                have E := Lib.hid (show queryB s hs l = false by rw [EQ.out, HI.out]; rw [c1, c2]; simp [c3])
                clear c1 c2
                go_wp2_with fail
                refine XS.out.mono ?_
                rintro e w3 ⟨he, rfl⟩
                rw [C1.out] at he
                subst he
                go_wp2_with fail
                refine (l1In_any (l.length : Int) 1 4 _).mono ?_
                rintro e w3 ⟨he, rfl⟩
                rw [C2.out] at he
                subst he
                go_wp2
                go_ret
                exact ⟨ret_bool ((decide_eq_false (show ¬ (hs.length : Int) ≤ 3 by omega)).trans E.out.symm), HB2.out⟩
            · have C2 := Lib.hid (show inB (l.length : Int) 1 4 = false by simpa using c2)
              have E := Lib.hid (show queryB s hs l = false by rw [EQ.out, HI.out]; rw [C2.out]; simp)
              clear c1 c2
              go_wp2_with fail
              refine XS.out.mono ?_
              rintro e w3 ⟨he, rfl⟩
              rw [C1.out] at he
              subst he
              go_wp2_with fail
              refine (l1In_any (l.length : Int) 1 4 _).mono ?_
              rintro e w3 ⟨he, rfl⟩
              rw [C2.out] at he
              subst he
              go_wp2
              go_ret
              exact ⟨ret_bool E.out.symm, HB2.out⟩
          · have C1 := Lib.hid (show schB s = false by simpa using c1)
            have E := Lib.hid (show queryB s hs l = false by rw [EQ.out, HI.out]; rw [C1.out]; simp)
            clear c1
            go_wp2_with fail
            refine XS.out.mono ?_
            rintro e w3 ⟨he, rfl⟩
            rw [C1.out] at he
            subst he
            go_wp2
            go_ret
            exact ⟨ret_bool E.out.symm, HB2.out⟩
end Go.Proofs.YtimlpdcambmcjaaGreat

namespace Go.Proofs.YtimlpdcambmcjaaGreat
open Go.ChangeShapes Go.WideShapes Go.ChangeAt Go.RowKit Go.Sort
set_option linter.unusedVariables false
set_option linter.unusedSimpArgs false

theorem allB_mem {a b : Int} {xs : List Int} (h : allB a b xs = true) {x : Int} (hx : x ∈ xs) : a ≤ x ∧ x ≤ b := by
  unfold allB at h
  rw [List.all_eq_true] at h
  simpa [inB] using h x hx
theorem allB_of {a b : Int} {xs : List Int} (h : ∀ x ∈ xs, a ≤ x ∧ x ≤ b) : allB a b xs = true := by
  unfold allB
  rw [List.all_eq_true]
  intro x hx
  simpa [inB] using h x hx
theorem areB_few {s : List Int} {l : FL} (h : areB s l = true) : l.length ≤ 24 ∧ ∀ f ∈ l, allB 0 9 f.2 = true ∧ f.2.length ≤ 3 := by
  unfold areB at h
  simp only [Bool.and_eq_true, decide_eq_true_eq] at h
  obtain ⟨⟨h1, h2⟩, h3⟩ := h
  refine ⟨h3, fun f hf => ?_⟩
  obtain ⟨k, hk, rfl⟩ := List.getElem_of_mem hf
  unfold allOk at h1
  rw [List.all_eq_true] at h1
  have h4 := h1 k (by simpa using hk)
  unfold okAt at h4
  rw [Bool.and_eq_true] at h4
  have e : l.getD k (0, []) = l[k] := by simp [List.getD_eq_getElem?_getD, hk]
  rw [e] at h4
  have h5 := h4.1
  unfold factB at h5
  simp only [Bool.and_eq_true, decide_eq_true_eq] at h5
  refine ⟨h5.2, ?_⟩
  have h6 := h5.1.1.2
  have h7 := h5.1.2
  unfold schB at h2
  rw [Bool.and_eq_true] at h2
  simp only [inB, Bool.and_eq_true, decide_eq_true_eq] at h6
  have h8 : (l[k]).1.toNat < s.length := by omega
  have h9 : s.getD (l[k]).1.toNat 0 ∈ s := by
    rw [List.getD_eq_getElem?_getD, List.getElem?_eq_getElem h8]
    exact List.getElem_mem _
  have h10 := allB_mem h2.1 h9
  omega
/-- A query that is valid, in these words. -/
structure QOk (hs : List Int) (l : FL) : Prop where
  few : 1 ≤ l.length ∧ l.length ≤ 4
  head : hs.length ≤ 3
  short : ∀ a ∈ l, a.2.length ≤ 3
  term : ∀ a ∈ l, allB 0 17 a.2 = true
  var : ∀ h ∈ hs, inB h 10 17 = true ∧ ∃ a ∈ l, h ∈ a.2
theorem QOk.of {s hs : List Int} {l : FL} (h : queryB s hs l = true) : QOk hs l := by
  unfold queryB at h
  simp only [Bool.and_eq_true, decide_eq_true_eq] at h
  obtain ⟨⟨⟨⟨h1, h2⟩, h3⟩, h4⟩, h5⟩ := h
  have h4 : 1 ≤ (l.length : Int) ∧ (l.length : Int) ≤ 4 := by simpa [inB] using h4
  have hA : ∀ a ∈ l, atom.factB s a.1 a.2 = true := by
    intro a ha
    unfold atomsB at h1
    rw [List.all_eq_true] at h1
    exact h1 a ha
  unfold schB at h3
  rw [Bool.and_eq_true] at h3
  refine ⟨by omega, h5, fun a ha => ?_, fun a ha => ?_, fun x hx => ?_⟩
  · have := hA a ha
    unfold atom.factB at this
    simp only [Bool.and_eq_true, decide_eq_true_eq] at this
    have h6 := this.1.1.2
    have h7 := this.1.2
    simp only [inB, Bool.and_eq_true, decide_eq_true_eq] at h6
    have h8 : a.1.toNat < s.length := by omega
    have h9 : s.getD a.1.toNat 0 ∈ s := by
      rw [List.getD_eq_getElem?_getD, List.getElem?_eq_getElem h8]
      exact List.getElem_mem _
    have h10 := allB_mem h3.1 h9
    omega
  · have := hA a ha
    unfold atom.factB at this
    simp only [Bool.and_eq_true] at this
    exact this.2
  · unfold inAll at h2
    rw [List.all_eq_true] at h2
    have := h2 x hx
    rw [decide_eq_true_eq, wl_mem] at this
    unfold terms at this
    rw [List.mem_flatMap] at this
    exact ⟨this.2, this.1⟩
theorem enum_gd (fs : FL) (hf : ∀ f ∈ fs, allB 0 9 f.2 = true) : ∀ (ats : FL) (p q : PL), Gd p → q ∈ enum fs ats p → Gd q
  | [], p, q, hp, h => by
    have : q = p := by simpa [enum] using h
    rw [this]; exact hp
  | a :: ats, p, q, hp, h => by
    unfold enum at h
    rw [List.mem_flatMap] at h
    obtain ⟨r, hr, hq⟩ := h
    unfold extA at hr
    rw [List.mem_filterMap] at hr
    obtain ⟨f, hfm, hr⟩ := hr
    exact enum_gd fs hf ats r q (mtF_gd hr hp (hf f hfm)) hq
/-- What holds of each binding of a valid query over valid facts. -/
theorem bnds_ok {hs : List Int} {ats fs : FL} (hq : QOk hs ats) (hf : ∀ f ∈ fs, allB 0 9 f.2 = true) {p : PL} (hp : p ∈ bnds fs ats) : Gd p ∧ ∀ h ∈ hs, inB h 10 17 = true ∧ h ∈ p.1 := by
  rw [bnds_enum] at hp
  refine ⟨enum_gd fs hf ats _ p gd_nil hp, fun h hh => ?_⟩
  obtain ⟨h1, a, ha, h2⟩ := hq.var h hh
  exact ⟨h1, (enum_pre fs ats _ p hp).2 a ha h h2 h1⟩
theorem pval_rng {p : PL} (hg : Gd p) {t : Int} (ht : t ∈ p.1) : 0 ≤ pval p t ∧ pval p t ≤ 9 := by
  have h1 := List.idxOf_lt_length_iff.2 ht
  unfold pval
  have h2 : p.1.idxOf t < p.2.length := by rw [← hg.1]; exact h1
  refine allB_mem hg.2.2.2 ?_
  rw [List.getD_eq_getElem?_getD, List.getElem?_eq_getElem h2]
  exact List.getElem_mem _
theorem headT_ok {hs : List Int} {p : PL} (hg : Gd p) (hv : ∀ h ∈ hs, inB h 10 17 = true ∧ h ∈ p.1) : (headT hs p).length = hs.length ∧ allB 0 9 (headT hs p) = true := by
  refine ⟨by simp [headT], allB_of fun x hx => ?_⟩
  unfold headT at hx
  rw [List.mem_map] at hx
  obtain ⟨h, hh, rfl⟩ := hx
  rw [bval_mem hg.1 (hv h hh).1 (hv h hh).2]
  exact pval_rng hg (hv h hh).2

/-! Few lists of few digits. -/
theorem nodup_nat : ∀ (n : Nat) (l : List Nat), l.Nodup → (∀ x ∈ l, x < n) → l.length ≤ n
  | 0, l, _, h => by
    cases l with
    | nil => simp
    | cons x r => exact absurd (h x (by simp)) (by omega)
  | n + 1, l, hd, h => by
    have ih := nodup_nat n (l.filter fun x => x != n) (hd.filter _) fun x hx => by
      have h1 := List.mem_filter.1 hx
      have h2 := h x h1.1
      have h3 : x ≠ n := by simpa using h1.2
      omega
    have hc : l.countP (fun x => x == n) ≤ 1 := by
      have := List.nodup_iff_count.1 hd n
      exact this
    have hs : l.length = (l.filter fun x => x != n).length + l.countP (fun x => x == n) := by
      have := List.length_eq_countP_add_countP (fun x : Nat => x != n) (l := l)
      rw [List.countP_eq_length_filter] at this
      have e : l.countP (fun a => decide ¬(a != n) = true) = l.countP (fun x => x == n) := by
        refine List.countP_congr fun x _ => ?_
        simp
      rw [e] at this
      omega
    omega
def code3 (t : List Int) : Nat := (t.getD 0 0).toNat * 100 + (t.getD 1 0).toNat * 10 + (t.getD 2 0).toNat
theorem dig_at {t : List Int} (h : allB 0 9 t = true) (k : Nat) : 0 ≤ t.getD k 0 ∧ t.getD k 0 ≤ 9 := by
  by_cases hk : k < t.length
  · refine allB_mem h ?_
    rw [List.getD_eq_getElem?_getD, List.getElem?_eq_getElem hk]
    exact List.getElem_mem _
  · rw [List.getD_eq_getElem?_getD, List.getElem?_eq_none (by omega)]
    simp
theorem code3_inj {n : Nat} (hn : n ≤ 3) {t u : List Int} (ht : t.length = n ∧ allB 0 9 t = true) (hu : u.length = n ∧ allB 0 9 u = true) (h : code3 t = code3 u) : t = u := by
  have a0 := dig_at ht.2 0; have a1 := dig_at ht.2 1; have a2 := dig_at ht.2 2
  have b0 := dig_at hu.2 0; have b1 := dig_at hu.2 1; have b2 := dig_at hu.2 2
  unfold code3 at h
  have e0 : t.getD 0 0 = u.getD 0 0 := by omega
  have e1 : t.getD 1 0 = u.getD 1 0 := by omega
  have e2 : t.getD 2 0 = u.getD 2 0 := by omega
  refine List.ext_getElem (by omega) fun k h1 h2 => ?_
  have g1 : t[k] = t.getD k 0 := by simp [List.getD_eq_getElem?_getD, h1]
  have g2 : u[k] = u.getD k 0 := by simp [List.getD_eq_getElem?_getD, h2]
  rw [g1, g2]
  obtain rfl | rfl | rfl : k = 0 ∨ k = 1 ∨ k = 2 := by omega
  · exact e0
  · exact e1
  · exact e2
theorem tup_few {n : Nat} (hn : n ≤ 3) (l : TL) (hd : l.Nodup) (hl : ∀ t ∈ l, t.length = n ∧ allB 0 9 t = true) : l.length ≤ 1000 := by
  have h1 : (l.map code3).Nodup := by
    refine List.pairwise_map.2 (List.Pairwise.imp_of_mem ?_ hd)
    intro a b ha hb hab e
    exact hab (code3_inj hn (hl a ha) (hl b hb) e)
  have h2 := nodup_nat 1000 (l.map code3) h1 fun x hx => by
    rw [List.mem_map] at hx
    obtain ⟨t, ht, rfl⟩ := hx
    have a0 := dig_at (hl t ht).2 0; have a1 := dig_at (hl t ht).2 1; have a2 := dig_at (hl t ht).2 2
    unfold code3
    omega
  simpa using h2
theorem sumT_le3 : ∀ (l : TL), (∀ t ∈ l, t.length ≤ 3) → sumT l ≤ 3 * l.length
  | [], _ => by simp [sumT]
  | t :: l, h => by
    have h1 := sumT_le3 l fun u hu => h u (List.mem_cons_of_mem _ hu)
    have h2 := h t (List.mem_cons_self)
    have e : sumT (t :: l) = t.length + sumT l := by simp [sumT]
    rw [e, List.length_cons]
    omega
/-- The heads of good bindings: few and small. -/
theorem tupA_small {hs : List Int} (hh : hs.length ≤ 3) {ps : List PL} (hp : ∀ p ∈ ps, Gd p ∧ ∀ h ∈ hs, inB h 10 17 = true ∧ h ∈ p.1) : (tupA hs ps).length ≤ 1000 ∧ szT (tupA hs ps) ≤ 4000 ∧ ∀ t ∈ tupA hs ps, t.length = hs.length ∧ allB 0 9 t = true := by
  have h := tupA_ok hs ps
  have hl : ∀ t ∈ tupA hs ps, t.length = hs.length ∧ allB 0 9 t = true := fun t ht => by
    obtain ⟨p, hpm, rfl⟩ := (h.2 t).1 ht
    exact headT_ok (hp p hpm).1 (hp p hpm).2
  have h1 := tup_few hh _ h.1.nodup hl
  have h2 := sumT_le3 (tupA hs ps) fun t ht => by have := (hl t ht).1; omega
  exact ⟨h1, by unfold szT; omega, hl⟩
end Go.Proofs.YtimlpdcambmcjaaGreat
