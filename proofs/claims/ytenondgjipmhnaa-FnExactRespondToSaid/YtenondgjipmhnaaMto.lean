/- What the two functions MatchesOf answer. Conditions: none beyond each theorem's own. -/
import Derived.Test.YtenondgjipmhnaaMtg
namespace Go.Proofs.Ytenondgjipmhnaa
open Go.ChangeShapes Go.WideShapes Go.ChangeAt Go.RowKit Go.Sort
set_option linter.unusedVariables false
set_option linter.unusedSimpArgs false

def matO (s : List Int) (l : ML) (fs : FL) (m : Int) (vs : List Int) : FL := if accB s l m vs && areB s fs then matF (l.getD m.toNat noM).1 (l.getD m.toNat noM).2.1 vs fs else []
theorem inpB_at {a : Int} {xs : List Int} (h : inpB a xs = true) {k : Nat} (hk : k < xs.length) : 0 ≤ xs.getD k 0 ∧ xs.getD k 0 ≤ a - 1 := by
  unfold inpB inpN at h
  rw [List.all_eq_true] at h
  have h1 := h k (by simpa using hk)
  unfold inpAt at h1
  rw [Bool.and_eq_true] at h1
  simpa [inB] using h1.1
theorem acc_of {s : List Int} {l : ML} {m : Int} {vs : List Int} (h : accB s l m vs = true) : aremB s l = true ∧ 0 ≤ m ∧ m.toNat < l.length ∧ vs.length = (l.getD m.toNat noM).2.1.length ∧ metB s (l.getD m.toNat noM) = true := by
  unfold accB at h
  simp only [Bool.and_eq_true] at h
  obtain ⟨⟨⟨h1, h2⟩, h3⟩, _⟩ := h
  have h2' : 0 ≤ m ∧ m ≤ (l.length : Int) - 1 := by simpa [inB] using h2
  have h3' := of_decide_eq_true h3
  have hm : m.toNat < l.length := by omega
  refine ⟨h1, h2'.1, hm, by omega, ?_⟩
  unfold aremB allM at h1
  simp only [Bool.and_eq_true] at h1
  have h4 := h1.1.1
  rw [List.all_eq_true] at h4
  exact h4 m.toNat (by simpa using hm)
theorem fact_of {s : List Int} {fs : FL} (h : areB s fs = true) {k : Nat} (hk : k < fs.length) : ((fs.getD k (0, [])).2.length : Int) = s.getD (fs.getD k (0, [])).1.toNat 0 := by
  unfold areB allOk at h
  simp only [Bool.and_eq_true] at h
  have h1 := h.1.1
  rw [List.all_eq_true] at h1
  have h2 := h1 k (by simpa using hk)
  unfold okAt factB at h2
  simp only [Bool.and_eq_true] at h2
  exact of_decide_eq_true h2.1.1.2
theorem fit_of {s : List Int} {l : ML} {m : Int} {vs : List Int} {fs : FL} (ha : accB s l m vs = true) (hf : areB s fs = true) {r li co qu : Int} {xs : List Int} (he : l.getD m.toNat noM = (r, xs, li, co, qu)) :
    vs.length = xs.length ∧ ∀ k, k < fs.length → fitOk r xs (fs.getD k (0, [])).1 (fs.getD k (0, [])).2 := by
  obtain ⟨_, _, _, h1, h2⟩ := acc_of ha
  rw [he] at h1 h2
  refine ⟨h1, fun k hk hr j hj => ?_⟩
  have h3 := fact_of hf hk
  rw [hr] at h3
  have h2' : methB s r xs li co qu = true := h2
  unfold methB at h2'
  simp only [Bool.and_eq_true] at h2'
  have h4 := inpB_at h2'.2 hj
  omega
theorem addOut_nil (w w' : World) (h : Below w.heap.size w w') : AddOut w [] (.returned (.slice none 0 0)) w' :=
  ⟨none, 0, [], fun _ => 0, rfl, ⟨World.ownsRow_nil _ _ _ _, Items.nil _ _ _⟩, h⟩
theorem addOut_lit (w w' : World) (h : Below w.heap.size w w') : AddOut w [] (.returned (.slice (some ⟨w'.heap.size, 0, none⟩) 0 0)) (w'.alloc (.cells #[] 98)) :=
  ⟨some ⟨w'.heap.size, 0, none⟩, 0, [], fun _ => 0, rfl, ⟨World.ownsRow_lit (base := w.heap.size) (e := 98) (size := 2) w' #[] 0 h.size (by unfold maxLen; omega) rfl, Items.nil _ _ _⟩, step h (below_alloc _ _)⟩
theorem AddOut.from {w w1 : World} {res : FL} {e : Ending} {w' : World} (h : AddOut w1 res e w') (hb : Below w.heap.size w w1) : AddOut w res e w' := by
  obtain ⟨A, c, cs, bs, he, ho, d⟩ := h
  exact ⟨A, c, cs, bs, he, ho.lo hb.size, step hb d⟩

set_option maxHeartbeats 4000000 in
set_option maxRecDepth 100000 in
theorem spec_MatchesOf (S : Option Addr) (cs : Nat) (s : List Int) (L : Option Addr) (cl : Nat) (l : ML) (D : Option Addr) (cd : Nat) (fs : FL) (m : Int) (vs : List Int) (V : Option Addr) (cv : Nat) (hls : s.length ≤ 1048576) (hz : szM l ≤ 1048576) (hzf : szF fs ≤ 1048576) (hlv : vs.length ≤ 1048576) (w : World) (h : RI w S s) (h' : RM w L l) (hd : RF w D fs) (hv : RI w V vs) :
    Calls Try.prog 31 #[.slice S s.length cs, .slice L l.length cl, .slice D fs.length cd, .agg #[.int .i64 m, .slice V vs.length cv]] w (AddOut w (matO s l fs m vs)) := by
  have bb := below_alloc w (.cells #[.int .i64 m, .slice V vs.length cv] 44)
  obtain ⟨W0, hW0⟩ : ∃ W0, W0 = w.alloc (.cells #[.int .i64 m, .slice V vs.length cv] 44) := ⟨_, rfl⟩
  have X0 := Box.new w #[.int .i64 m, .slice V vs.length cv] 44
  rw [← hW0] at X0 bb
  have HB0 := Lib.hid bb
  have HX0 := Lib.hid X0
  have HI := Lib.hid (h.step bb)
  have HL := Lib.hid (h'.step bb)
  have HD := Lib.hid (hd.step bb)
  have HV := Lib.hid (hv.step bb)
  have EW := Lib.hid hW0
  have x0 := X0.cell 0
  have x1 := X0.cell 1
  simp only [List.getElem?_toArray, List.getElem?_cons_zero, List.getElem?_cons_succ] at x0 x1
  have XA := Lib.hid (spec_IsAccess S cs s L cl l m vs V cv hls hz hlv W0 HI.out HL.out HV.out)
  clear h h' hd hv bb hW0 X0
  by_cases ca : accB s l m vs = true
  · have CA := Lib.hid ca
    rw [ca] at XA
    clear ca
    by_cases cf : areB s fs = true
    · have CF := Lib.hid cf
      clear cf
      have hm0 := (acc_of CA.out).2.1
      have hml := (acc_of CA.out).2.2.1
      obtain ⟨k, rfl⟩ := Int.eq_ofNat_of_zero_le hm0
      rw [Int.toNat_natCast] at hml
      generalize hf : l.getD k noM = f
      obtain ⟨r, xs, li, co, qu⟩ := f
      have FO := Lib.hid (fit_of CA.out CF.out (show l.getD ((k : Int)).toNat noM = (r, xs, li, co, qu) by rw [Int.toNat_natCast]; exact hf))
      have EH := Lib.hid (show matO s l fs (k : Int) vs = matF r xs vs fs by unfold matO; rw [CA.out, CF.out, Int.toNat_natCast, hf]; rfl)
      have hxl : xs.length ≤ 1048576 := by have := szM_elem hz hml; rw [hf] at this; exact this
      have hk0 : (0 : Int) ≤ (k : Int) := by omega
      have hk1 : (k : Int) < (l.length : Int) := by omega
      have HF := Lib.hid hf
      have XF := Lib.hid fun (W : World) (hW : Below W0.heap.size W0 W) => (show Calls Try.prog 74 #[.slice S s.length cs, .slice D fs.length cd] W fun e w' => e = .returned (.bool true) ∧ Below W.heap.size W w' by have := spec_AreFacts S cs s D cd fs hls hzf W (HI.out.step hW) (HD.out.step hW); rw [CF.out] at this; exact this)
      clear hf hm0
      go_enter Try.func31, Try.ntmps31
      go_wp2_with fail
      rw [← EW.out]
      refine XA.out.mono ?_
      rintro e u1 ⟨rfl, d1⟩
      have D1 := Lib.hid d1
      clear d1
      go_wp2_with fail
      refine (XF.out _ D1.out).mono ?_
      rintro e u2 ⟨rfl, d2⟩
      have D2 := Lib.hid (step D1.out d2)
      clear d2 x0 x1
      have Z := HX0.out.step D2.out
      have x0 := Z.cell 0
      have x1 := Z.cell 1
      simp only [List.getElem?_toArray, List.getElem?_cons_zero, List.getElem?_cons_succ] at x0 x1
      have zn := Z.lt
      obtain ⟨b, off, B, c2, rfl, n1, e0, e1, e2, e3, e4, _, _, hX⟩ := (HL.out.step D2.out).at_ hml HF.out
      have HX := Lib.hid hX
      have HV2 := Lib.hid (HV.out.step D2.out)
      have HD2 := Lib.hid (HD.out.step D2.out)
      clear hX Z
      go_wp2
      go_region_held3 (fun w' => w'.cell? ⟨w.heap.size, 0, none⟩ = some (.int .i64 (k : Int)) ∧ w'.cell? ⟨w.heap.size, 1, none⟩ = some (.slice V vs.length cv) ∧ w'.cell? ⟨b, off + k * 5, none⟩ = some (.int .i64 r) ∧ w'.cell? ⟨b, off + k * 5 + 1, none⟩ = some (.slice B xs.length c2) ∧ w'.cell? ⟨b, off + k * 5 + 2, none⟩ = some (.int .i64 li) ∧ w'.cell? ⟨b, off + k * 5 + 3, none⟩ = some (.int .i64 co) ∧ w'.cell? ⟨b, off + k * 5 + 4, none⟩ = some (.int .i64 qu))
        (first
          | go_keep
          | (go_split_ands; refine ⟨?_, ?_, ?_, ?_, ?_, ?_, ?_⟩ <;> (rw [d3.cell (by (try simp) <;> omega)]; assumption)))
        (first
          | (go_at_call 75
             refine (l5Matches_any r xs li co qu B c2 vs V cv D cd fs hxl FO.out.1 hzf FO.out.2 _ (by first | exact HX.out | exact HX.out.step (below_drew _)) (by first | exact HV2.out | exact HV2.out.step (below_drew _)) (by first | exact HD2.out | exact HD2.out.step (below_drew _))).mono ?_
             rintro e u3 ⟨A3, c3, cs3, bs3, rfl, ho3, d3⟩
             have b3 : Below u2.heap.size u2 u3 := by first | exact d3 | exact und d3
             have O3 := Lib.hid (show OwnC u3 u2.heap.size u3.heap.size _ _ _ _ from ho3)
             have D3 := Lib.hid (step (step HB0.out D2.out) b3)
             clear ho3))
      go_wp2
      go_ret
      rw [EH.out]
      exact AddOut.from (show AddOut u2 (matF r xs vs fs) _ u3 from ⟨A3, c3, cs3, bs3, rfl, O3.out, by first | exact d3 | exact und d3⟩) (step HB0.out D2.out)
    · have CF := Lib.hid (show areB s fs = false by simpa using cf)
      have EH := Lib.hid (show matO s l fs m vs = [] by unfold matO; rw [CF.out]; simp)
      have XF := Lib.hid fun (W : World) (hW : Below W0.heap.size W0 W) => (show Calls Try.prog 74 #[.slice S s.length cs, .slice D fs.length cd] W fun e w' => e = .returned (.bool false) ∧ Below W.heap.size W w' by have := spec_AreFacts S cs s D cd fs hls hzf W (HI.out.step hW) (HD.out.step hW); rw [CF.out] at this; exact this)
      clear cf
      go_enter Try.func31, Try.ntmps31
      go_wp2_with fail
      rw [← EW.out]
      refine XA.out.mono ?_
      rintro e u1 ⟨rfl, d1⟩
      have D1 := Lib.hid d1
      clear d1
      go_wp2_with fail
      refine (XF.out _ D1.out).mono ?_
      rintro e u2 ⟨rfl, d2⟩
      have D2 := Lib.hid (step HB0.out (step D1.out d2))
      clear d2
      go_wp2
      go_ret
      rw [EH.out]
      exact addOut_lit w u2 D2.out
  · have CA := Lib.hid (show accB s l m vs = false by simpa using ca)
    have EH := Lib.hid (show matO s l fs m vs = [] by unfold matO; rw [CA.out]; simp)
    rw [CA.out] at XA
    clear ca
    go_enter Try.func31, Try.ntmps31
    go_wp2_with fail
    rw [← EW.out]
    refine XA.out.mono ?_
    rintro e u1 ⟨rfl, d1⟩
    have D1 := Lib.hid (step HB0.out d1)
    clear d1
    go_wp2
    go_ret
    rw [EH.out]
    exact addOut_lit w u1 D1.out
end Go.Proofs.Ytenondgjipmhnaa
