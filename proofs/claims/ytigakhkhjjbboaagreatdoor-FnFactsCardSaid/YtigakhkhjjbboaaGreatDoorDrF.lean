/- The model's drawing of a fact. Conditions: none beyond each theorem's own. -/
import Derived.Test.YtigakhkhjjbboaaGreatDoorDr
import Derived.Test.YtigakhkhjjbboaaGreatDoorTreeL
namespace Go.Proofs.YtigakhkhjjbboaaGreatDoor
open Go.ChangeShapes Go.WideShapes Go.ChangeAt Go.RowKit Go.Sort
set_option linter.unusedVariables false
set_option linter.unusedSimpArgs false

theorem Box.dr {w w' : World} {b g len cap : Nat} {A : Option Addr} {cs : Array Value} {t : TypeId} (h : Box w b cs t) (hb : b ≠ g) (d : Dr g A len cap w w') : Box w' b cs t := (d.block h.lt hb).trans h
/-- A fact of the call's own. -/
def DrawF (g : Nat) (A : Option Addr) (len cap : Nat) (m : Nat) (w : World) (e : Ending) (w' : World) : Prop :=
  ∃ (r : Int) (X : Option Addr) (c : Nat) (xs : List Int), e = .returned (.agg #[.int .i64 r, .slice X xs.length c]) ∧ w'.ownsRow w.heap.size 3 1 (.slice X xs.length c) xs.length (xs.map (Value.int .i64)) ∧ (1 ≤ xs.length ∧ xs.length ≤ m) ∧ Dr g A len cap w w'
theorem sch_at {s : List Int} (h : schB s = true) {k : Nat} (hk : k < s.length) : 1 ≤ s.getD k 0 ∧ s.getD k 0 ≤ 3 := by
  unfold schB at h
  simp only [Bool.and_eq_true] at h
  have h1 := h.1
  unfold allB at h1
  rw [List.all_eq_true] at h1
  have := h1 s[k] (List.getElem_mem _)
  have e : s.getD k 0 = s[k] := by simp [List.getD_eq_getElem?_getD, hk]
  rw [e]
  simpa [inB] using this
theorem sch_len {s : List Int} (h : schB s = true) : 1 ≤ s.length ∧ s.length ≤ 3 := by
  unfold schB at h
  simp only [Bool.and_eq_true] at h
  have := h.2
  simp [inB] at this
  omega
theorem Dr.append {base g len cap : Nat} {A : Option Addr} {a w w' : World} (h : Dr g A len cap a w) (hb : Below base w w') (h1 : a.heap.size ≤ base) (hg : g < a.heap.size) : Dr g A len cap a w' :=
  ⟨h.cur.below hb (by omega), grown_then h.grown (hb.mono h1) hb.size⟩

set_option maxRecDepth 100000 in
set_option maxHeartbeats 2000000 in
theorem l2Fact_any (B g lo hi0 : Nat) (A : Option Addr) (len cap : Nat) (S : Option Addr) (cs : Nat) (s : List Int) (wide : Int) (w : World) (hw1 : 1 ≤ wide) (hw2 : wide ≤ 10) (hs : schB s = true) (hS : Ints w lo hi0 S s) (hlo : g < lo) (hhi : hi0 ≤ w.heap.size)
    (hlen : len ≤ 1048576) (hg : B ≤ g) (hc : Cur w g A len cap) (hcode : CodeIn B w A len) :
    Calls Tryz.prog 42 #[.pointer (some ⟨g, 0, none⟩), .slice S s.length cs, .int .i64 wide] w (DrawF g A len cap 3 w) := by
  obtain ⟨i0, hi, hz0, hz1, hz2⟩ := info_parts int_info
  have hgw := hc.lt
  have hsl := sch_len hs
  have HC := Lib.hid fun (W : World) (d : Dr g A len cap w W) => hcode.below (d.below hg hgw)
  have HI := Lib.hid fun (W : World) (d : Dr g A len cap w W) => hS.dr hlo hhi d
  have HSC := Lib.hid hs
  have D0 := Lib.hid ((Dr.refl hc).alloc (.cells #[.int .i64 0, .slice none 0 0] 27))
  have X0 := Lib.hid (Box.new w #[.int .i64 0, .slice none 0 0] 27)
  clear hc hcode hs hS
  go_enter Tryz.func42, Tryz.ntmps42
  go_wp2_with fail
  refine (l1Below_d B g A len cap (s.length : Int) _ (by omega) (by omega) hlen hg D0.out.cur (HC.out _ D0.out)).mono ?_
  rintro e w1 ⟨x, rfl, hx0, hx1, d⟩
  obtain ⟨r, rfl⟩ := Int.eq_ofNat_of_zero_le hx0
  have hr : r < s.length := by omega
  have hr0 : (0 : Int) ≤ (r : Int) := by omega
  have hr1 : (r : Int) < (s.length : Int) := by omega
  have SA := sch_at HSC.out hr
  generalize hn : s.getD r 0 = n0 at SA
  obtain ⟨n, rfl⟩ := Int.eq_ofNat_of_zero_le (show 0 ≤ n0 by omega)
  have HN := Lib.hid hn
  have D1 := Lib.hid (D0.out.trans d)
  have X1 := Lib.hid (X0.out.dr (by omega) d)
  have Y1 := Lib.hid (Box.new w1 #[.int .i64 r, .slice none 0 0] 27)
  have D2 := Lib.hid (D1.out.alloc (.cells #[.int .i64 r, .slice none 0 0] 27))
  have X2 := Lib.hid (X1.out.step (below_alloc w1 (.cells #[.int .i64 r, .slice none 0 0] 27)))
  have L1 := X1.out.lt
  clear d hn
  go_wp2
  go_loopw [8, 9] (fun i _ wr => ∃ (vs : List Int) (X : Option Addr) (c : Nat), i = .int .i64 vs.length ∧ vs.length ≤ n ∧ Hid (Box wr w1.heap.size #[.int .i64 r, .slice X vs.length c] 27) ∧ Hid (wr.ownsRow (w1.heap.size + 1) 3 1 (.slice X vs.length c) vs.length (vs.map (Value.int .i64))) ∧ Hid (Box wr w.heap.size #[.int .i64 0, .slice none 0 0] 27) ∧ Hid (Dr g A len cap w wr) ∧ Hid (w1.heap.size + 1 ≤ wr.heap.size)) (fun i _ _ => n - (intOf i).toNat)
  case atStart => exact ⟨[], none, 0, rfl, by simp, Y1, Lib.hid ⟨by simp, .inl ⟨rfl, rfl⟩⟩, X2, D2, Lib.hid (by simp)⟩
  case round =>
    obtain ⟨vs, X, c, rfl, hvn, hY, hO, hX, hD, hZ⟩ := hrel
    obtain ⟨b, off, rfl, _, hb2, hcS⟩ := (HI.out _ hD.out).at_ hr
    rw [HN.out] at hcS
    have y0 := hY.out.cell 0
    simp only [List.getElem?_toArray, List.getElem?_cons_zero, List.getElem?_cons_succ] at y0
    by_cases hlt : vs.length < n
    · go_wp2_with fail
      refine (l1Below_d B g A len cap wide _ (by omega) (by omega) hlen hg hD.out.cur (HC.out _ hD.out)).mono ?_
      rintro e w2 ⟨x, rfl, hx0, hx1, d⟩
      have D3 := Lib.hid (hD.out.trans d)
      have O3 := Lib.hid (own_kept hO.out (by omega) d.grown)
      have Y3 := Lib.hid (hY.out.dr (by omega) d)
      have X3 := Lib.hid (hX.out.dr (by omega) d)
      have SZ : w1.heap.size + 1 ≤ w2.heap.size := by have := d.size; have := hZ.out; omega
      have y1 := Y3.out.cell 1
      have y3 := Y3.out.frozen 1
      simp only [List.getElem?_toArray, List.getElem?_cons_zero, List.getElem?_cons_succ] at y1
      clear d hcS y0
      go_wp2_with (at_builtin; refine wpList_push (w0 := w2) rfl _ _ _ 3 rfl i0 Tryz.underlying25 hi (.int .i64 0) 8 hz0 hz1 hz2 rfl (by omega) rfl rfl rfl O3.out (Below.refl _ _) SZ (by omega) ?_; intro v' w' hown' hb' hsz'; obtain ⟨A', c', rfl⟩ := ownsRow_form hown'
                   have y5 := (hb'.cell (p := ⟨w1.heap.size, 1, none⟩) (by (try simp) <;> omega)).trans y1
                   have y6 := (hb'.frozen (p := ⟨w1.heap.size, 1, none⟩) (by (try simp) <;> omega)).trans y3)
      go_roundw
      case rel =>
        refine ⟨vs ++ [x], A', c', by first | go_num | simp, by (try simp) <;> omega, Lib.hid ?_, Lib.hid ?_, Lib.hid ?_, Lib.hid ?_, Lib.hid ?_⟩
        · have := ((show Box w' w1.heap.size _ _ from (hb'.block _ (by omega)).trans Y3.out).set 1 (.slice A' (vs.length + 1) c'))
          simpa using this
        · have := ownsRow_set (u := .slice A' (vs.length + 1) c') hown' (p := ⟨w1.heap.size, 1, none⟩) (by simp)
          simpa using this
        · exact (show Box w' w.heap.size _ _ from (hb'.block _ (by omega)).trans X3.out).set_other (by (try simp); omega)
        · exact (D3.out.append hb' (by omega) hgw).setCell (by (try simp); omega) hgw _
        · rw [set_size]; omega
      case measure => simp [intOf]; omega
    · skip
      have q0 := hX.out.cell 0
      have q1 := hX.out.cell 1
      have q2 := hX.out.frozen 0
      have q3 := hX.out.frozen 1
      have y1 := hY.out.cell 1
      simp only [List.getElem?_toArray, List.getElem?_cons_zero, List.getElem?_cons_succ] at q0 q1 y1
      go_wp2
      refine bodyPost_ret (v := .agg #[.int .i64 r, .slice X vs.length c]) (by simp [results, Tryz.results42, go_sem, q0, q1, q2, q3]) rfl ?_
      refine (show DrawF g A len cap 3 w _ _ from ⟨r, X, c, vs, rfl, ?_, by omega, ?_⟩)
      · exact ownsRow_lo (ownsRow_set (ownsRow_set hO.out (by (try simp); omega)) (by (try simp); omega)) (by omega)
      · exact (hD.out.setCell (Nat.le_refl _) hgw _).setCell (Nat.le_refl _) hgw _
end Go.Proofs.YtigakhkhjjbboaaGreatDoor
