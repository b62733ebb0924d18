/- What impl.insertOnce answers at facts. Conditions: none beyond each theorem's own. -/
import Derived.Test.YtigakhkhjjbboaaGreatDoorAddM
namespace Go.Proofs.YtigakhkhjjbboaaGreatDoor
open Go.ChangeShapes Go.WideShapes Go.ChangeAt Go.RowKit Go.Sort
set_option linter.unusedVariables false
set_option linter.unusedSimpArgs false

set_option maxRecDepth 100000 in
set_option maxHeartbeats 1000000 in
theorem isEqF_any (g g' : Nat) (r2 : Int) (ys : List Int) (B : Option Addr) (c2 : Nat) (r : Int) (xs : List Int) (A' : Option Addr) (c' : Nat) (hl : ys.length ≤ 1048576) (hl2 : xs.length ≤ 1048576) (w : World) (hI : RI w B ys) (hJ : RI w A' xs)
    (hb : Box w g #[.int .i64 r, .slice A' xs.length c'] 27) (hb' : Box w g' #[.func (.func 20) #[] #[]] 46) :
    Calls Tryz.prog 82 #[.agg #[.int .i64 r2, .slice B ys.length c2], .pointer (some ⟨g', 0, none⟩), .pointer (some ⟨g, 0, none⟩)] w fun e w' => e = .returned (.bool (decide (cmpF r2 ys r xs = 0))) ∧ Below w.heap.size w w' := by
  have B0 := Lib.hid (below_alloc w (.cells #[.int .i64 r2, .slice B ys.length c2] 27))
  have XC := Lib.hid (impl_CompareFacts r2 r ys xs B A' c2 c' (by omega) (by omega) _ (hI.step B0.out) (hJ.step B0.out))
  have X0 := hb.step B0.out
  have X1 := hb'.step B0.out
  have g0 := X0.cell 0
  have g1 := X0.cell 1
  have g2 := X1.cell 0
  simp only [List.getElem?_toArray, List.getElem?_cons_zero, List.getElem?_cons_succ] at g0 g1 g2
  clear X0 X1 hb hb' hI hJ
  generalize cmpF r2 ys r xs = q at XC
  go_enter Tryz.func82, Tryz.ntmps82
  go_wp2_with fail
  refine XC.out.mono ?_
  rintro e w1 ⟨rfl, d⟩
  have D := Lib.hid (step B0.out d)
  clear d
  go_wp2
  go_ret
  exact ⟨ret_bool (by by_cases hq : q = 0 <;> simp [hq] <;> omega), D.out⟩

set_option maxRecDepth 100000 in
set_option maxHeartbeats 1000000 in
theorem isGrF_any (g g' : Nat) (r2 : Int) (ys : List Int) (B : Option Addr) (c2 : Nat) (r : Int) (xs : List Int) (A' : Option Addr) (c' : Nat) (hl : ys.length ≤ 1048576) (hl2 : xs.length ≤ 1048576) (w : World) (hI : RI w B ys) (hJ : RI w A' xs)
    (hb : Box w g #[.int .i64 r, .slice A' xs.length c'] 27) (hb' : Box w g' #[.func (.func 20) #[] #[]] 46) :
    Calls Tryz.prog 83 #[.agg #[.int .i64 r2, .slice B ys.length c2], .pointer (some ⟨g', 0, none⟩), .pointer (some ⟨g, 0, none⟩)] w fun e w' => e = .returned (.bool (decide (cmpF r2 ys r xs > 0))) ∧ Below w.heap.size w w' := by
  have B0 := Lib.hid (below_alloc w (.cells #[.int .i64 r2, .slice B ys.length c2] 27))
  have XC := Lib.hid (impl_CompareFacts r2 r ys xs B A' c2 c' (by omega) (by omega) _ (hI.step B0.out) (hJ.step B0.out))
  have X0 := hb.step B0.out
  have X1 := hb'.step B0.out
  have g0 := X0.cell 0
  have g1 := X0.cell 1
  have g2 := X1.cell 0
  simp only [List.getElem?_toArray, List.getElem?_cons_zero, List.getElem?_cons_succ] at g0 g1 g2
  clear X0 X1 hb hb' hI hJ
  generalize cmpF r2 ys r xs = q at XC
  go_enter Tryz.func83, Tryz.ntmps83
  go_wp2_with fail
  refine XC.out.mono ?_
  rintro e w1 ⟨rfl, d⟩
  have D := Lib.hid (step B0.out d)
  clear d
  go_wp2
  go_ret
  exact ⟨ret_bool (by by_cases hq : q > 0 <;> simp [hq] <;> omega), D.out⟩

/-- The first place at which p holds, or -1. -/
def IdxFF (w : World) (n : Nat) (p : Nat → Bool) (e : Ending) (w' : World) : Prop :=
  ((∃ k, k < n ∧ (∀ j, j < k → p j = false) ∧ p k = true ∧ e = .returned (.int .i64 k)) ∨ ((∀ j, j < n → p j = false) ∧ e = .returned (.int .i64 (-1)))) ∧ Below w.heap.size w w'

set_option maxRecDepth 100000 in
set_option maxHeartbeats 1000000 in
theorem indexFuncF0_any (A : Option Addr) (c : Nat) (l : FL) (a1 a2 : Value) (p : Nat → Bool) (hz : szF l ≤ 1048576) (w : World) (h : RF w A l)
    (hF : ∀ (k : Nat) (r2 : Int) (ys : List Int) (B : Option Addr) (c2 : Nat) (W : World), k < l.length → l.getD k (0, []) = (r2, ys) → ys.length ≤ 1048576 → RI W B ys → Below w.heap.size w W →
      Calls Tryz.prog 82 #[.agg #[.int .i64 r2, .slice B ys.length c2], a1, a2] W fun e w' => e = .returned (.bool (p k)) ∧ Below W.heap.size W w') :
    Calls Tryz.prog 86 #[.slice A l.length c, .func (.func 82) #[] #[a1, a2]] w (IdxFF w l.length p) := by
  have hl := szF_len hz
  have hl' : (l.length : Int) ≤ 1048576 := by omega
  have HI := Lib.hid h
  have HF := Lib.hid hF
  clear h hF
  go_enter Tryz.func86, Tryz.ntmps86
  go_wp2
  go_loopw [5, 8] (fun _ i wr => ∃ k : Nat, k ≤ l.length ∧ i = .int .i64 k ∧ Hid (∀ j, j < k → p j = false) ∧ Below w.heap.size w wr) (fun _ i _ => l.length - (intOf i).toNat)
  case atStart => exact ⟨0, by omega, rfl, Lib.hid (fun j hj => by omega), Below.refl _ _⟩
  case round =>
    obtain ⟨k, hk, rfl, ha, hb⟩ := hrel
    by_cases hlt : k < l.length
    · generalize hf : l.getD k (0, []) = f
      obtain ⟨r2, ys⟩ := f
      have HX := Lib.hid hf
      have hyl : ys.length ≤ 1048576 := by have := szF_elem hz hlt; rw [hf] at this; exact this
      obtain ⟨b, off, B, c2, rfl, n1, e0, e1, hxc, hcm, hI⟩ := (HI.out.step hb).at_ hlt hf
      have XF := Lib.hid fun (W : World) (hW : RI W B ys) (hW2 : Below w.heap.size w W) => HF.out k r2 ys B c2 W hlt HX.out hyl hW hW2
      have XI := Lib.hid hI
      generalize hp : p k = pb at XF
      have HP := Lib.hid hp
      clear hf hI hp
      have hk0 : (0 : Int) ≤ (k : Int) := by omega
      have hk1 : (k : Int) < (l.length : Int) := by omega
      go_wp2_with fail
      refine (XF.out _ XI.out hb).mono ?_
      rintro e u ⟨rfl, d⟩
      have hb2 := step hb d
      clear d
      cases pb
      · go_wp2
        go_roundw
        case rel => exact ⟨k + 1, by omega, by go_num, Lib.hid (fun j hj => by
          by_cases e : j = k
          · subst e; exact HP.out
          · exact ha.out j (by omega)), hb2⟩
        case measure => simp [intOf]; omega
      · go_wp2
        go_ret
        exact ⟨.inl ⟨k, hlt, ha.out, HP.out, rfl⟩, hb2⟩
    · obtain rfl : k = l.length := by omega
      go_wp2
      go_ret
      exact ⟨.inr ⟨ha.out, rfl⟩, hb⟩

set_option maxRecDepth 100000 in
set_option maxHeartbeats 1000000 in
theorem indexFuncF1_any (A : Option Addr) (c : Nat) (l : FL) (a1 a2 : Value) (p : Nat → Bool) (hz : szF l ≤ 1048576) (w : World) (h : RF w A l)
    (hF : ∀ (k : Nat) (r2 : Int) (ys : List Int) (B : Option Addr) (c2 : Nat) (W : World), k < l.length → l.getD k (0, []) = (r2, ys) → ys.length ≤ 1048576 → RI W B ys → Below w.heap.size w W →
      Calls Tryz.prog 83 #[.agg #[.int .i64 r2, .slice B ys.length c2], a1, a2] W fun e w' => e = .returned (.bool (p k)) ∧ Below W.heap.size W w') :
    Calls Tryz.prog 86 #[.slice A l.length c, .func (.func 83) #[] #[a1, a2]] w (IdxFF w l.length p) := by
  have hl := szF_len hz
  have hl' : (l.length : Int) ≤ 1048576 := by omega
  have HI := Lib.hid h
  have HF := Lib.hid hF
  clear h hF
  go_enter Tryz.func86, Tryz.ntmps86
  go_wp2
  go_loopw [5, 8] (fun _ i wr => ∃ k : Nat, k ≤ l.length ∧ i = .int .i64 k ∧ Hid (∀ j, j < k → p j = false) ∧ Below w.heap.size w wr) (fun _ i _ => l.length - (intOf i).toNat)
  case atStart => exact ⟨0, by omega, rfl, Lib.hid (fun j hj => by omega), Below.refl _ _⟩
  case round =>
    obtain ⟨k, hk, rfl, ha, hb⟩ := hrel
    by_cases hlt : k < l.length
    · generalize hf : l.getD k (0, []) = f
      obtain ⟨r2, ys⟩ := f
      have HX := Lib.hid hf
      have hyl : ys.length ≤ 1048576 := by have := szF_elem hz hlt; rw [hf] at this; exact this
      obtain ⟨b, off, B, c2, rfl, n1, e0, e1, hxc, hcm, hI⟩ := (HI.out.step hb).at_ hlt hf
      have XF := Lib.hid fun (W : World) (hW : RI W B ys) (hW2 : Below w.heap.size w W) => HF.out k r2 ys B c2 W hlt HX.out hyl hW hW2
      have XI := Lib.hid hI
      generalize hp : p k = pb at XF
      have HP := Lib.hid hp
      clear hf hI hp
      have hk0 : (0 : Int) ≤ (k : Int) := by omega
      have hk1 : (k : Int) < (l.length : Int) := by omega
      go_wp2_with fail
      refine (XF.out _ XI.out hb).mono ?_
      rintro e u ⟨rfl, d⟩
      have hb2 := step hb d
      clear d
      cases pb
      · go_wp2
        go_roundw
        case rel => exact ⟨k + 1, by omega, by go_num, Lib.hid (fun j hj => by
          by_cases e : j = k
          · subst e; exact HP.out
          · exact ha.out j (by omega)), hb2⟩
        case measure => simp [intOf]; omega
      · go_wp2
        go_ret
        exact ⟨.inl ⟨k, hlt, ha.out, HP.out, rfl⟩, hb2⟩
    · obtain rfl : k = l.length := by omega
      go_wp2
      go_ret
      exact ⟨.inr ⟨ha.out, rfl⟩, hb⟩

set_option maxRecDepth 100000 in
theorem containsFuncF_any (A : Option Addr) (c : Nat) (l : FL) (a1 a2 : Value) (p : Nat → Bool) (hz : szF l ≤ 1048576) (w : World) (h : RF w A l) (res : Bool) (hres : res = true ↔ ∃ k, k < l.length ∧ p k = true)
    (hF : ∀ (k : Nat) (r2 : Int) (ys : List Int) (B : Option Addr) (c2 : Nat) (W : World), k < l.length → l.getD k (0, []) = (r2, ys) → ys.length ≤ 1048576 → RI W B ys → Below w.heap.size w W →
      Calls Tryz.prog 82 #[.agg #[.int .i64 r2, .slice B ys.length c2], a1, a2] W fun e w' => e = .returned (.bool (p k)) ∧ Below W.heap.size W w') :
    Calls Tryz.prog 85 #[.slice A l.length c, .func (.func 82) #[] #[a1, a2]] w fun e w' => e = .returned (.bool res) ∧ Below w.heap.size w w' := by
  have XI := Lib.hid (indexFuncF0_any A c l a1 a2 p hz w h hF)
  have HR := Lib.hid hres
  clear h hF hres
  go_enter Tryz.func85, Tryz.ntmps85
  go_wp2_with fail
  refine XI.out.mono ?_
  rintro e u ⟨hx, d⟩
  have D := Lib.hid d
  clear d
  rcases hx with ⟨k, hk, _, hp, rfl⟩ | ⟨hn, rfl⟩
  · have E := Lib.hid (show res = true from HR.out.2 ⟨k, hk, hp⟩)
    have hk0 : (0 : Int) ≤ (k : Int) := by omega
    clear hp
    go_wp2
    go_ret
    exact ⟨ret_bool (by rw [E.out]), D.out⟩
  · have E := Lib.hid (show res = false by
      cases hr : res
      · rfl
      · obtain ⟨k, hk, hp⟩ := HR.out.1 hr
        rw [hn k hk] at hp
        cases hp)
    clear hn
    go_wp2
    go_ret
    exact ⟨ret_bool (by rw [E.out]), D.out⟩

set_option maxRecDepth 100000 in
set_option maxHeartbeats 1000000 in
theorem copyEachF_any (A : Option Addr) (c : Nat) (fs : FL) (hz : szF fs ≤ 1048576) (w : World) (h : RF w A fs) :
    Calls Tryz.prog 84 #[.slice A fs.length c, .func (.func 45) #[] #[]] w (CopyL w fs) := by
  have hl := szF_len hz
  obtain ⟨C, hC, hCs, hmk⟩ := makeFacts fs.length hl
  have HI := Lib.hid h
  have HC := Lib.hid hC
  have HS := Lib.hid hCs
  clear h hC hCs
  have hl' : (fs.length : Int) ≤ 1048576 := by omega
  go_enter Tryz.func84, Tryz.ntmps84
  go_wp2
  go_loopw [6, 7, 13] (fun _ _ i wr => ∃ k : Nat, k ≤ fs.length ∧ i = .int .i64 k ∧ OwnP wr w.heap.size wr.heap.size w.heap.size (fs.length * 2) k fs ∧ Below w.heap.size w wr) (fun _ _ i _ => fs.length - (intOf i).toNat)
  case atStart =>
    refine ⟨0, by omega, rfl, ⟨Nat.le_refl _, by simp, fun i => if i % 2 = 0 then .int .i64 0 else .slice none 0 0, fun _ => 0, ⟨C, by rw [heap_alloc_new], HS.out, fun i hi => HC.out i hi⟩, fun j hj => by omega, fun i j _ hj => by omega⟩, below_alloc _ _⟩
  case round =>
    obtain ⟨k, hk, rfl, ho, hb⟩ := hrel
    have HO := Lib.hid ho
    clear ho
    by_cases hlt : k < fs.length
    · generalize hf : fs.getD k (0, []) = f
      obtain ⟨r, xs⟩ := f
      have HF := Lib.hid hf
      have hxl : xs.length ≤ 1048576 := by have := szF_elem hz hlt; rw [hf] at this; exact this
      obtain ⟨b, off, B, c2, rfl, _, e0, e1, hxc, hcm, hI⟩ := (HI.out.step hb).at_ hlt hf
      clear hf
      unfold maxLen at hcm
      have HX := Lib.hid (hI.step (below_alloc wr (.cells #[.int .i64 r, .slice B xs.length c2] 27)))
      clear hI
      go_wp2_with fail
      refine (copyFact_any r B c2 xs hxl _ HX.out).mono ?_
      rintro e u ⟨A3, c3, q, rfl, hv, d0⟩
      have d := below_new d0
      have hv2 : OwnV u w.heap.size u.heap.size (.slice A3 xs.length c3) q xs := hv.mono (by have := HO.out.2.1; (try simp); omega) (Nat.le_refl _)
      have hq : 0 < xs.length → wr.heap.size ≤ q := fun hp => by
        obtain ⟨_, _, he, _, _, hx⟩ := hv
        obtain ⟨_, h2, _⟩ := hx hp
        (try simp at h2); omega
      have hg : w.heap.size < wr.heap.size := HO.out.2.1
      obtain ⟨F, bs, hrow, _, _⟩ := HO.out.2.2
      have hrow2 : u.rowIs w.heap.size 27 (fs.length * 2) F := World.rowIs.of_block hrow (d.block _ hg)
      have q0 := hrow2.cell (show k * 2 < fs.length * 2 by omega)
      have q1 := hrow2.cell (show k * 2 + 1 < fs.length * 2 by omega)
      have q2 := hrow2.frozen (k * 2)
      have q3 := hrow2.frozen (k * 2 + 1)
      have HV := Lib.hid hv2
      clear hrow hrow2 hv hv2 d0
      go_wp2
      go_roundw
      case rel =>
        refine ⟨k + 1, by omega, by go_num, own_step HO.out (by omega) HF.out d HV.out hq, ?_⟩
        exact ((hb.trans (d.mono hb.size)).setCell (Nat.le_refl _) _).setCell (Nat.le_refl _) _
      case measure => simp [intOf]; omega
    · obtain rfl : k = fs.length := by omega
      go_wp2
      go_ret
      exact ⟨rfl, HO.out, hb, HO.out.2.1⟩

end Go.Proofs.YtigakhkhjjbboaaGreatDoor
