/- What the program finds of a method's numbers. Conditions: none beyond each theorem's own. -/
import Derived.Test.YtighalbnpgmdfaaMth
import Derived.Lib.QuietBelow
import Derived.Laws.EntriesVeiled
namespace Go.Proofs.Ytighalbnpgmdfaa
open Go.ChangeShapes Go.WideShapes Go.ChangeAt Go.RowKit Go.Sort
set_option linter.unusedVariables false
set_option linter.unusedSimpArgs false

/-- The table of a method's numbers. -/
abbrev numCells : Array Value := #[.int .i64 0, .int .i64 9, .string ⟨#[108, 105, 109, 105, 116]⟩, .func (.func 181) #[] #[], .int .i64 0, .int .i64 99, .string ⟨#[99, 111, 115, 116]⟩, .func (.func 182) #[] #[], .int .i64 1, .int .i64 99, .string ⟨#[113, 117, 111, 116, 97]⟩, .func (.func 183) #[] #[]]

set_option maxRecDepth 100000 in
theorem methodNumbers_any (w : World) : Calls Try.prog 174 #[] w fun e w' => e = .returned (.slice (some ⟨w.heap.size, 0, none⟩) 3 3) ∧ Box w' w.heap.size numCells 187 ∧ Below w.heap.size w w' := by
  go_enter Try.func174, Try.ntmps174
  go_wp2
  go_ret
  exact ⟨rfl, Box.new _ _ _, below_alloc _ _⟩

set_option maxRecDepth 100000 in
theorem limitOf_any (g : Nat) (w : World) : Calls Try.prog 181 #[.pointer (some ⟨g, 0, none⟩)] w fun e w' => e = .returned (.pointer (some ⟨g, 2, none⟩)) ∧ Below w.heap.size w w' := by
  go_enter Try.func181, Try.ntmps181
  go_wp2
  go_ret
  exact ⟨rfl, Below.refl _ _⟩

set_option maxRecDepth 100000 in
theorem costOf_any (g : Nat) (w : World) : Calls Try.prog 182 #[.pointer (some ⟨g, 0, none⟩)] w fun e w' => e = .returned (.pointer (some ⟨g, 3, none⟩)) ∧ Below w.heap.size w w' := by
  go_enter Try.func182, Try.ntmps182
  go_wp2
  go_ret
  exact ⟨rfl, Below.refl _ _⟩

set_option maxRecDepth 100000 in
theorem quotaOf_any (g : Nat) (w : World) : Calls Try.prog 183 #[.pointer (some ⟨g, 0, none⟩)] w fun e w' => e = .returned (.pointer (some ⟨g, 4, none⟩)) ∧ Below w.heap.size w w' := by
  go_enter Try.func183, Try.ntmps183
  go_wp2
  go_ret
  exact ⟨rfl, Below.refl _ _⟩

set_option maxRecDepth 100000 in
theorem spanHas_any (a b x : Int) (w : World) : Calls Try.prog 176 #[.agg #[.int .i64 a, .int .i64 b], .int .i64 x] w fun e w' => e = .returned (.bool (inB x a b)) ∧ Below w.heap.size w w' := by
  have XC := Lib.hid (isBetween_any x a b)
  go_enter Try.func176, Try.ntmps176
  go_wp2_with fail
  refine (XC.out _).mono ?_
  rintro e w' ⟨rfl, rfl⟩
  go_wp2
  go_ret
  exact ⟨rfl, below_alloc _ _⟩

set_option maxRecDepth 100000 in
set_option maxHeartbeats 1000000 in
theorem has_limit (g : Nat) (r : Int) (S : Value) (li co qu : Int) (w : World) (hb : Box w g #[.int .i64 r, S, .int .i64 li, .int .i64 co, .int .i64 qu] 71) :
    Calls Try.prog 175 #[.agg #[.int .i64 0, .int .i64 9, .string ⟨#[108, 105, 109, 105, 116]⟩, .func (.func 181) #[] #[]], .pointer (some ⟨g, 0, none⟩)] w fun e w' => e = .returned (.bool (inB li 0 9)) ∧ Below w.heap.size w w' := by
  have B0 := Lib.hid (below_alloc w (.cells #[.int .i64 0, .int .i64 9, .string ⟨#[108, 105, 109, 105, 116]⟩, .func (.func 181) #[] #[]] 187))
  have X0 := Box.new w #[.int .i64 0, .int .i64 9, .string ⟨#[108, 105, 109, 105, 116]⟩, .func (.func 181) #[] #[]] 187
  have X1 := hb.step B0.out
  have e0 := X0.cell 0
  have e1 := X0.cell 1
  have e3 := X0.cell 3
  have f2 := X1.cell 2
  simp only [List.getElem?_toArray, List.getElem?_cons_zero, List.getElem?_cons_succ] at e0 e1 e3 f2
  have k0 := cell_regrown e0
  have k1 := cell_regrown e1
  have k3 := cell_regrown e3
  have k4 := cell_regrown f2
  have Y1 := Lib.hid fun (W : World) => limitOf_any g W
  have Y2 := Lib.hid fun (W : World) => spanHas_any 0 9 li W
  generalize inB li 0 9 = res at Y2
  clear hb X0 X1 e0 e1 e3 f2
  go_enter Try.func175, Try.ntmps175
  go_wp2
  refine wp_region_quiet_below (by kernel_rfl) (by kernel_rfl) ?_
  repeat (go_big_quiet_step (first | (go_at_call 181; with_reducible exact Calls.regrown_of (Y1.out _)) | (go_at_call 176; with_reducible exact Calls.regrown_of (Y2.out _))))
  refine wpQuiet_nil ?_
  intro u hw'
  have hb2 := step B0.out (show Below _ _ u by obtain ⟨⟨dq, osq⟩, rfl⟩ := hw'; exact below_regrown _ _ _)
  clear hw' k0 k1 k3 k4
  go_wp2
  go_ret
  exact ⟨rfl, hb2⟩

set_option maxRecDepth 100000 in
set_option maxHeartbeats 1000000 in
theorem has_cost (g : Nat) (r : Int) (S : Value) (li co qu : Int) (w : World) (hb : Box w g #[.int .i64 r, S, .int .i64 li, .int .i64 co, .int .i64 qu] 71) :
    Calls Try.prog 175 #[.agg #[.int .i64 0, .int .i64 99, .string ⟨#[99, 111, 115, 116]⟩, .func (.func 182) #[] #[]], .pointer (some ⟨g, 0, none⟩)] w fun e w' => e = .returned (.bool (inB co 0 99)) ∧ Below w.heap.size w w' := by
  have B0 := Lib.hid (below_alloc w (.cells #[.int .i64 0, .int .i64 99, .string ⟨#[99, 111, 115, 116]⟩, .func (.func 182) #[] #[]] 187))
  have X0 := Box.new w #[.int .i64 0, .int .i64 99, .string ⟨#[99, 111, 115, 116]⟩, .func (.func 182) #[] #[]] 187
  have X1 := hb.step B0.out
  have e0 := X0.cell 0
  have e1 := X0.cell 1
  have e3 := X0.cell 3
  have f2 := X1.cell 3
  simp only [List.getElem?_toArray, List.getElem?_cons_zero, List.getElem?_cons_succ] at e0 e1 e3 f2
  have k0 := cell_regrown e0
  have k1 := cell_regrown e1
  have k3 := cell_regrown e3
  have k4 := cell_regrown f2
  have Y1 := Lib.hid fun (W : World) => costOf_any g W
  have Y2 := Lib.hid fun (W : World) => spanHas_any 0 99 co W
  generalize inB co 0 99 = res at Y2
  clear hb X0 X1 e0 e1 e3 f2
  go_enter Try.func175, Try.ntmps175
  go_wp2
  refine wp_region_quiet_below (by kernel_rfl) (by kernel_rfl) ?_
  repeat (go_big_quiet_step (first | (go_at_call 182; with_reducible exact Calls.regrown_of (Y1.out _)) | (go_at_call 176; with_reducible exact Calls.regrown_of (Y2.out _))))
  refine wpQuiet_nil ?_
  intro u hw'
  have hb2 := step B0.out (show Below _ _ u by obtain ⟨⟨dq, osq⟩, rfl⟩ := hw'; exact below_regrown _ _ _)
  clear hw' k0 k1 k3 k4
  go_wp2
  go_ret
  exact ⟨rfl, hb2⟩

set_option maxRecDepth 100000 in
set_option maxHeartbeats 1000000 in
theorem has_quota (g : Nat) (r : Int) (S : Value) (li co qu : Int) (w : World) (hb : Box w g #[.int .i64 r, S, .int .i64 li, .int .i64 co, .int .i64 qu] 71) :
    Calls Try.prog 175 #[.agg #[.int .i64 1, .int .i64 99, .string ⟨#[113, 117, 111, 116, 97]⟩, .func (.func 183) #[] #[]], .pointer (some ⟨g, 0, none⟩)] w fun e w' => e = .returned (.bool (inB qu 1 99)) ∧ Below w.heap.size w w' := by
  have B0 := Lib.hid (below_alloc w (.cells #[.int .i64 1, .int .i64 99, .string ⟨#[113, 117, 111, 116, 97]⟩, .func (.func 183) #[] #[]] 187))
  have X0 := Box.new w #[.int .i64 1, .int .i64 99, .string ⟨#[113, 117, 111, 116, 97]⟩, .func (.func 183) #[] #[]] 187
  have X1 := hb.step B0.out
  have e0 := X0.cell 0
  have e1 := X0.cell 1
  have e3 := X0.cell 3
  have f2 := X1.cell 4
  simp only [List.getElem?_toArray, List.getElem?_cons_zero, List.getElem?_cons_succ] at e0 e1 e3 f2
  have k0 := cell_regrown e0
  have k1 := cell_regrown e1
  have k3 := cell_regrown e3
  have k4 := cell_regrown f2
  have Y1 := Lib.hid fun (W : World) => quotaOf_any g W
  have Y2 := Lib.hid fun (W : World) => spanHas_any 1 99 qu W
  generalize inB qu 1 99 = res at Y2
  clear hb X0 X1 e0 e1 e3 f2
  go_enter Try.func175, Try.ntmps175
  go_wp2
  refine wp_region_quiet_below (by kernel_rfl) (by kernel_rfl) ?_
  repeat (go_big_quiet_step (first | (go_at_call 183; with_reducible exact Calls.regrown_of (Y1.out _)) | (go_at_call 176; with_reducible exact Calls.regrown_of (Y2.out _))))
  refine wpQuiet_nil ?_
  intro u hw'
  have hb2 := step B0.out (show Below _ _ u by obtain ⟨⟨dq, osq⟩, rfl⟩ := hw'; exact below_regrown _ _ _)
  clear hw' k0 k1 k3 k4
  go_wp2
  go_ret
  exact ⟨rfl, hb2⟩

def numK (li co qu : Int) : Nat → Prop
  | 0 => True
  | 1 => inB li 0 9 = true
  | 2 => inB li 0 9 = true ∧ inB co 0 99 = true
  | _ => inB li 0 9 = true ∧ inB co 0 99 = true ∧ inB qu 1 99 = true
theorem numK_end {li co qu : Int} (h : numK li co qu 3) : numB li co qu = true := by
  obtain ⟨h1, h2, h3⟩ := h
  simp [numB, h1, h2, h3]

set_option maxRecDepth 100000 in
set_option maxHeartbeats 1000000 in
theorem areAllN_any (g b : Nat) (r : Int) (S : Value) (li co qu : Int) (w : World) (hm : Box w g #[.int .i64 r, S, .int .i64 li, .int .i64 co, .int .i64 qu] 71) (ht : Box w b numCells 187) :
    Calls Try.prog 173 #[.slice (some ⟨b, 0, none⟩) 3 3, .func (.func 175) #[] #[.pointer (some ⟨g, 0, none⟩)]] w fun e w' => e = .returned (.bool (numB li co qu)) ∧ Below w.heap.size w w' := by
  have HM := Lib.hid hm
  have HT0 := Lib.hid ht
  clear hm ht
  go_enter Try.func173, Try.ntmps173
  go_wp2
  go_loopw [6, 9] (fun _ i wr => ∃ k : Nat, k ≤ 3 ∧ i = .int .i64 k ∧ numK li co qu k ∧ Hid (Below w.heap.size w wr)) (fun _ i _ => 3 - (intOf i).toNat)
  case atStart => exact ⟨0, by omega, rfl, trivial, Lib.hid (Below.refl _ _)⟩
  case round =>
    obtain ⟨k, hk, rfl, ha, hb⟩ := hrel
    have XT := HT0.out.step hb.out
    have XM := HM.out.step hb.out
    rcases (by omega : k = 0 ∨ k = 1 ∨ k = 2 ∨ k = 3) with rfl | rfl | rfl | rfl
    · have q0 := XT.cell 0
      have q1 := XT.cell 1
      have q2 := XT.cell 2
      have q3 := XT.cell 3
      simp only [List.getElem?_toArray, List.getElem?_cons_zero, List.getElem?_cons_succ] at q0 q1 q2 q3
      have XC := Lib.hid (has_limit g r S li co qu _ (XM.step (below_alloc wr (.cells #[.int .i64 0, .int .i64 9, .string ⟨#[108, 105, 109, 105, 116]⟩, .func (.func 181) #[] #[]] 187))))
      generalize ht : inB li 0 9 = res at XC
      have HT := Lib.hid ht
      clear ht XT XM
      go_wp2_with fail
      refine XC.out.mono ?_
      rintro e u ⟨rfl, d⟩
      have hb2 := step hb.out (below_new d)
      clear d
      cases res
      · go_wp2
        go_ret
        exact ⟨ret_bool (by simp [numB, HT.out]), hb2⟩
      · go_wp2
        go_roundw
        case rel => exact ⟨1, by omega, by go_num, by exact HT.out, Lib.hid hb2⟩
        case measure => simp [intOf]
    · have q0 := XT.cell 4
      have q1 := XT.cell 5
      have q2 := XT.cell 6
      have q3 := XT.cell 7
      simp only [List.getElem?_toArray, List.getElem?_cons_zero, List.getElem?_cons_succ] at q0 q1 q2 q3
      have XC := Lib.hid (has_cost g r S li co qu _ (XM.step (below_alloc wr (.cells #[.int .i64 0, .int .i64 99, .string ⟨#[99, 111, 115, 116]⟩, .func (.func 182) #[] #[]] 187))))
      generalize ht : inB co 0 99 = res at XC
      have HT := Lib.hid ht
      clear ht XT XM
      go_wp2_with fail
      refine XC.out.mono ?_
      rintro e u ⟨rfl, d⟩
      have hb2 := step hb.out (below_new d)
      clear d
      cases res
      · go_wp2
        go_ret
        exact ⟨ret_bool (by simp [numB, HT.out]), hb2⟩
      · go_wp2
        go_roundw
        case rel => exact ⟨2, by omega, by go_num, by exact ⟨ha, HT.out⟩, Lib.hid hb2⟩
        case measure => simp [intOf]
    · have q0 := XT.cell 8
      have q1 := XT.cell 9
      have q2 := XT.cell 10
      have q3 := XT.cell 11
      simp only [List.getElem?_toArray, List.getElem?_cons_zero, List.getElem?_cons_succ] at q0 q1 q2 q3
      have XC := Lib.hid (has_quota g r S li co qu _ (XM.step (below_alloc wr (.cells #[.int .i64 1, .int .i64 99, .string ⟨#[113, 117, 111, 116, 97]⟩, .func (.func 183) #[] #[]] 187))))
      generalize ht : inB qu 1 99 = res at XC
      have HT := Lib.hid ht
      clear ht XT XM
      go_wp2_with fail
      refine XC.out.mono ?_
      rintro e u ⟨rfl, d⟩
      have hb2 := step hb.out (below_new d)
      clear d
      cases res
      · go_wp2
        go_ret
        exact ⟨ret_bool (by simp [numB, HT.out]), hb2⟩
      · go_wp2
        go_roundw
        case rel => exact ⟨3, by omega, by go_num, by exact ⟨ha.1, ha.2, HT.out⟩, Lib.hid hb2⟩
        case measure => simp [intOf]
    · clear XT XM
      have HE := Lib.hid (numK_end ha)
      clear ha
      go_wp2
      go_ret
      exact ⟨ret_bool HE.out.symm, hb.out⟩

set_option maxRecDepth 100000 in
set_option maxHeartbeats 2000000 in
theorem hasMethodNumbers_any (r : Int) (xs : List Int) (A : Option Addr) (n c : Nat) (li co qu : Int) (w : World) :
    Calls Try.prog 155 #[.agg #[.int .i64 r, .slice A n c, .int .i64 li, .int .i64 co, .int .i64 qu]] w fun e w' => e = .returned (.bool (numB li co qu)) ∧ Below w.heap.size w w' := by
  have B0 := Lib.hid (below_alloc w (.cells #[.int .i64 r, .slice A n c, .int .i64 li, .int .i64 co, .int .i64 qu] 71))
  have X0 := Lib.hid (Box.new w #[.int .i64 r, .slice A n c, .int .i64 li, .int .i64 co, .int .i64 qu] 71)
  go_enter Try.func155, Try.ntmps155
  go_wp2_with fail
  refine (methodNumbers_any _).mono ?_
  rintro e u ⟨rfl, ht, d⟩
  rw [al_size] at ht
  have HT := Lib.hid ht
  have HD := Lib.hid d
  clear ht d
  go_wp2_with fail
  refine (areAllN_any w.heap.size (w.heap.size + 1) r (.slice A n c) li co qu u (X0.out.step HD.out) HT.out).mono ?_
  rintro e v ⟨rfl, d⟩
  have D := Lib.hid (step (step B0.out HD.out) d)
  clear d
  go_wp2
  go_ret
  exact ⟨rfl, D.out⟩
end Go.Proofs.Ytighalbnpgmdfaa
