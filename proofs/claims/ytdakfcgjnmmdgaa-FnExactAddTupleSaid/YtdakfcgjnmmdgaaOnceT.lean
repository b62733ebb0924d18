/- What impl.insertOnce answers at lists of numbers. Conditions: none beyond each theorem's own. -/
import Derived.Test.YtdakfcgjnmmdgaaOnceF
import Derived.Test.YtdakfcgjnmmdgaaTup
namespace Go.Proofs.Ytdakfcgjnmmdgaa
open Go.ChangeShapes Go.WideShapes Go.ChangeAt Go.RowKit Go.Sort
set_option linter.unusedVariables false
set_option linter.unusedSimpArgs false

set_option maxRecDepth 100000 in
set_option maxHeartbeats 1000000 in
theorem isEqT_any (g g' : Nat) (ys : List Int) (B : Option Addr) (c2 : Nat) (xs : List Int) (A' : Option Addr) (c' : Nat) (hl : ys.length ≤ 1048576) (hl2 : xs.length ≤ 1048576) (w : World) (hI : RI w B ys) (hJ : RI w A' xs)
    (hb : Box w g #[.slice A' xs.length c'] 23) (hb' : Box w g' #[.func (.func 81) #[] #[]] 100) :
    Calls Try.prog 97 #[.slice B ys.length c2, .pointer (some ⟨g', 0, none⟩), .pointer (some ⟨g, 0, none⟩)] w fun e w' => e = .returned (.bool (decide (cmpL ys xs = 0))) ∧ Below w.heap.size w w' := by
  have B0 := Lib.hid (Below.refl w.heap.size w)
  have XC := Lib.hid (slicesCompare_any B A' c2 c' ys xs (by omega) (by omega) _ (hI.step B0.out) (hJ.step B0.out))
  have X0 := hb.step B0.out
  have X1 := hb'.step B0.out
  have g0 := X0.cell 0
  have g2 := X1.cell 0
  simp only [List.getElem?_toArray, List.getElem?_cons_zero, List.getElem?_cons_succ] at g0 g2
  clear X0 X1 hb hb' hI hJ
  generalize cmpL ys xs = q at XC
  go_enter Try.func97, Try.ntmps97
  go_wp2_with fail
  refine XC.out.mono ?_
  rintro e w1 ⟨rfl, rfl⟩
  have D := B0
  go_wp2
  go_ret
  exact ⟨ret_bool (by by_cases hq : q = 0 <;> simp [hq] <;> omega), D.out⟩

set_option maxRecDepth 100000 in
set_option maxHeartbeats 1000000 in
theorem isGrT_any (g g' : Nat) (ys : List Int) (B : Option Addr) (c2 : Nat) (xs : List Int) (A' : Option Addr) (c' : Nat) (hl : ys.length ≤ 1048576) (hl2 : xs.length ≤ 1048576) (w : World) (hI : RI w B ys) (hJ : RI w A' xs)
    (hb : Box w g #[.slice A' xs.length c'] 23) (hb' : Box w g' #[.func (.func 81) #[] #[]] 100) :
    Calls Try.prog 98 #[.slice B ys.length c2, .pointer (some ⟨g', 0, none⟩), .pointer (some ⟨g, 0, none⟩)] w fun e w' => e = .returned (.bool (decide (cmpL ys xs > 0))) ∧ Below w.heap.size w w' := by
  have B0 := Lib.hid (Below.refl w.heap.size w)
  have XC := Lib.hid (slicesCompare_any B A' c2 c' ys xs (by omega) (by omega) _ (hI.step B0.out) (hJ.step B0.out))
  have X0 := hb.step B0.out
  have X1 := hb'.step B0.out
  have g0 := X0.cell 0
  have g2 := X1.cell 0
  simp only [List.getElem?_toArray, List.getElem?_cons_zero, List.getElem?_cons_succ] at g0 g2
  clear X0 X1 hb hb' hI hJ
  generalize cmpL ys xs = q at XC
  go_enter Try.func98, Try.ntmps98
  go_wp2_with fail
  refine XC.out.mono ?_
  rintro e w1 ⟨rfl, rfl⟩
  have D := B0
  go_wp2
  go_ret
  exact ⟨ret_bool (by by_cases hq : q > 0 <;> simp [hq] <;> omega), D.out⟩

/-- The first place at which p holds, or -1. -/
def IdxFT (w : World) (n : Nat) (p : Nat → Bool) (e : Ending) (w' : World) : Prop :=
  ((∃ k, k < n ∧ (∀ j, j < k → p j = false) ∧ p k = true ∧ e = .returned (.int .i64 k)) ∨ ((∀ j, j < n → p j = false) ∧ e = .returned (.int .i64 (-1)))) ∧ Below w.heap.size w w'

set_option maxRecDepth 100000 in
set_option maxHeartbeats 1000000 in
theorem indexFuncT0_any (A : Option Addr) (c : Nat) (l : TL) (a1 a2 : Value) (p : Nat → Bool) (hz : szT l ≤ 1048576) (w : World) (h : RT w A l)
    (hF : ∀ (k : Nat) (ys : List Int) (B : Option Addr) (c2 : Nat) (W : World), k < l.length → l.getD k [] = ys → ys.length ≤ 1048576 → RI W B ys → Below w.heap.size w W →
      Calls Try.prog 97 #[.slice B ys.length c2, a1, a2] W fun e w' => e = .returned (.bool (p k)) ∧ Below W.heap.size W w') :
    Calls Try.prog 101 #[.slice A l.length c, .func (.func 97) #[] #[a1, a2]] w (IdxFT w l.length p) := by
  have hl := szT_len hz
  have hl' : (l.length : Int) ≤ 1048576 := by omega
  have HI := Lib.hid h
  have HF := Lib.hid hF
  clear h hF
  go_enter Try.func101, Try.ntmps101
  go_wp2
  go_loopw [5, 8] (fun _ i wr => ∃ k : Nat, k ≤ l.length ∧ i = .int .i64 k ∧ Hid (∀ j, j < k → p j = false) ∧ Below w.heap.size w wr) (fun _ i _ => l.length - (intOf i).toNat)
  case atStart => exact ⟨0, by omega, rfl, Lib.hid (fun j hj => by omega), Below.refl _ _⟩
  case round =>
    obtain ⟨k, hk, rfl, ha, hb⟩ := hrel
    by_cases hlt : k < l.length
    · generalize hf : l.getD k [] = ys
      have HX := Lib.hid hf
      have hyl : ys.length ≤ 1048576 := by have := szT_elem hz hlt; rw [hf] at this; exact this
      obtain ⟨b, off, B, c2, rfl, n1, e1, hxc, hcm, hI⟩ := (HI.out.step hb).at_ hlt hf
      have XF := Lib.hid fun (W : World) (hW : RI W B ys) (hW2 : Below w.heap.size w W) => HF.out k ys B c2 W hlt HX.out hyl hW hW2
      have XI := Lib.hid hI
      generalize hp : p k = pb at XF
      have HP := Lib.hid hp
      clear hf hI hp
      have hk0 : (0 : Int) ≤ (k : Int) := by omega
      have hk1 : (k : Int) < (l.length : Int) := by omega
      go_wp2_with fail
      refine (XF.out _ XI.out hb).mono ?_
      rintro e u ⟨rfl, d⟩
      have hb2 := step hb d
      clear d
      cases pb
      · go_wp2
        go_roundw
        case rel => exact ⟨k + 1, by omega, by go_num, Lib.hid (fun j hj => by
          by_cases e : j = k
          · subst e; exact HP.out
          · exact ha.out j (by omega)), hb2⟩
        case measure => simp [intOf]; omega
      · go_wp2
        go_ret
        exact ⟨.inl ⟨k, hlt, ha.out, HP.out, rfl⟩, hb2⟩
    · obtain rfl : k = l.length := by omega
      go_wp2
      go_ret
      exact ⟨.inr ⟨ha.out, rfl⟩, hb⟩

set_option maxRecDepth 100000 in
set_option maxHeartbeats 1000000 in
theorem indexFuncT1_any (A : Option Addr) (c : Nat) (l : TL) (a1 a2 : Value) (p : Nat → Bool) (hz : szT l ≤ 1048576) (w : World) (h : RT w A l)
    (hF : ∀ (k : Nat) (ys : List Int) (B : Option Addr) (c2 : Nat) (W : World), k < l.length → l.getD k [] = ys → ys.length ≤ 1048576 → RI W B ys → Below w.heap.size w W →
      Calls Try.prog 98 #[.slice B ys.length c2, a1, a2] W fun e w' => e = .returned (.bool (p k)) ∧ Below W.heap.size W w') :
    Calls Try.prog 101 #[.slice A l.length c, .func (.func 98) #[] #[a1, a2]] w (IdxFT w l.length p) := by
  have hl := szT_len hz
  have hl' : (l.length : Int) ≤ 1048576 := by omega
  have HI := Lib.hid h
  have HF := Lib.hid hF
  clear h hF
  go_enter Try.func101, Try.ntmps101
  go_wp2
  go_loopw [5, 8] (fun _ i wr => ∃ k : Nat, k ≤ l.length ∧ i = .int .i64 k ∧ Hid (∀ j, j < k → p j = false) ∧ Below w.heap.size w wr) (fun _ i _ => l.length - (intOf i).toNat)
  case atStart => exact ⟨0, by omega, rfl, Lib.hid (fun j hj => by omega), Below.refl _ _⟩
  case round =>
    obtain ⟨k, hk, rfl, ha, hb⟩ := hrel
    by_cases hlt : k < l.length
    · generalize hf : l.getD k [] = ys
      have HX := Lib.hid hf
      have hyl : ys.length ≤ 1048576 := by have := szT_elem hz hlt; rw [hf] at this; exact this
      obtain ⟨b, off, B, c2, rfl, n1, e1, hxc, hcm, hI⟩ := (HI.out.step hb).at_ hlt hf
      have XF := Lib.hid fun (W : World) (hW : RI W B ys) (hW2 : Below w.heap.size w W) => HF.out k ys B c2 W hlt HX.out hyl hW hW2
      have XI := Lib.hid hI
      generalize hp : p k = pb at XF
      have HP := Lib.hid hp
      clear hf hI hp
      have hk0 : (0 : Int) ≤ (k : Int) := by omega
      have hk1 : (k : Int) < (l.length : Int) := by omega
      go_wp2_with fail
      refine (XF.out _ XI.out hb).mono ?_
      rintro e u ⟨rfl, d⟩
      have hb2 := step hb d
      clear d
      cases pb
      · go_wp2
        go_roundw
        case rel => exact ⟨k + 1, by omega, by go_num, Lib.hid (fun j hj => by
          by_cases e : j = k
          · subst e; exact HP.out
          · exact ha.out j (by omega)), hb2⟩
        case measure => simp [intOf]; omega
      · go_wp2
        go_ret
        exact ⟨.inl ⟨k, hlt, ha.out, HP.out, rfl⟩, hb2⟩
    · obtain rfl : k = l.length := by omega
      go_wp2
      go_ret
      exact ⟨.inr ⟨ha.out, rfl⟩, hb⟩

set_option maxRecDepth 100000 in
theorem containsFuncT_any (A : Option Addr) (c : Nat) (l : TL) (a1 a2 : Value) (p : Nat → Bool) (hz : szT l ≤ 1048576) (w : World) (h : RT w A l) (res : Bool) (hres : res = true ↔ ∃ k, k < l.length ∧ p k = true)
    (hF : ∀ (k : Nat) (ys : List Int) (B : Option Addr) (c2 : Nat) (W : World), k < l.length → l.getD k [] = ys → ys.length ≤ 1048576 → RI W B ys → Below w.heap.size w W →
      Calls Try.prog 97 #[.slice B ys.length c2, a1, a2] W fun e w' => e = .returned (.bool (p k)) ∧ Below W.heap.size W w') :
    Calls Try.prog 100 #[.slice A l.length c, .func (.func 97) #[] #[a1, a2]] w fun e w' => e = .returned (.bool res) ∧ Below w.heap.size w w' := by
  have XI := Lib.hid (indexFuncT0_any A c l a1 a2 p hz w h hF)
  have HR := Lib.hid hres
  clear h hF hres
  go_enter Try.func100, Try.ntmps100
  go_wp2_with fail
  refine XI.out.mono ?_
  rintro e u ⟨hx, d⟩
  have D := Lib.hid d
  clear d
  rcases hx with ⟨k, hk, _, hp, rfl⟩ | ⟨hn, rfl⟩
  · have E := Lib.hid (show res = true from HR.out.2 ⟨k, hk, hp⟩)
    have hk0 : (0 : Int) ≤ (k : Int) := by omega
    clear hp
    go_wp2
    go_ret
    exact ⟨ret_bool (by rw [E.out]), D.out⟩
  · have E := Lib.hid (show res = false by
      cases hr : res
      · rfl
      · obtain ⟨k, hk, hp⟩ := HR.out.1 hr
        rw [hn k hk] at hp
        cases hp)
    clear hn
    go_wp2
    go_ret
    exact ⟨ret_bool (by rw [E.out]), D.out⟩

/-- A list of lists of the call's own, at the head of block g; the numbers' blocks lie from lo on. -/
def CopyT (w : World) (fs : TL) (e : Ending) (w' : World) : Prop :=
  e = .returned (.slice (some ⟨w.heap.size, 0, none⟩) fs.length fs.length) ∧ OwnT w' w.heap.size w'.heap.size w.heap.size fs.length fs.length fs ∧ Below w.heap.size w w' ∧ w.heap.size < w'.heap.size
set_option maxRecDepth 100000 in
set_option maxHeartbeats 1000000 in
theorem copyEachT_any (A : Option Addr) (c : Nat) (fs : TL) (hz : szT fs ≤ 1048576) (w : World) (h : RT w A fs) :
    Calls Try.prog 99 #[.slice A fs.length c, .func (.func 82) #[] #[]] w (CopyT w fs) := by
  have hl := szT_len hz
  obtain ⟨C, hC, hCs, hmk⟩ := makeTups fs.length hl
  have HI := Lib.hid h
  have HN := Lib.hid (ownT_new w fs.length C hC hCs fs)
  clear h hC hCs
  have hl' : (fs.length : Int) ≤ 1048576 := by omega
  go_enter Try.func99, Try.ntmps99
  go_wp2
  go_loopw [6, 7, 13] (fun _ _ i wr => ∃ k : Nat, k ≤ fs.length ∧ i = .int .i64 k ∧ OwnT wr w.heap.size wr.heap.size w.heap.size fs.length k fs ∧ Below w.heap.size w wr) (fun _ _ i _ => fs.length - (intOf i).toNat)
  case atStart => exact ⟨0, by omega, rfl, HN.out, below_alloc _ _⟩
  case round =>
    obtain ⟨k, hk, rfl, ho, hb⟩ := hrel
    have HO := Lib.hid ho
    clear ho
    by_cases hlt : k < fs.length
    · generalize hf : fs.getD k [] = xs
      have HF := Lib.hid hf
      have hxl : xs.length ≤ 1048576 := by have := szT_elem hz hlt; rw [hf] at this; exact this
      obtain ⟨b, off, B, c2, rfl, _, e1, hxc, hcm, hI⟩ := (HI.out.step hb).at_ hlt hf
      clear hf
      unfold maxLen at hcm
      have HX := Lib.hid hI
      clear hI
      have hg : w.heap.size < wr.heap.size := HO.out.2.1
      obtain ⟨F, bs, hrow, _, _⟩ := HO.out.2.2
      have HRW := Lib.hid hrow
      clear hrow
      go_wp2_with fail
      refine (clone_any B c2 xs hxl _ HX.out).mono ?_
      rintro e u ⟨A3, c3, q, rfl, hv, d⟩
      have hq : 0 < xs.length → wr.heap.size ≤ q := fun hp => (hv.rng hp).1
      have hv2 := hv.mono (Nat.le_of_lt hg) (Nat.le_refl _)
      have hrow2 : u.rowIs w.heap.size 23 fs.length F := World.rowIs.of_block HRW.out (d.block _ hg)
      have q0 := hrow2.cell hlt
      have q2 := hrow2.frozen k
      have HV := Lib.hid hv2
      clear hrow2 hv hv2
      go_wp2
      go_roundw
      case rel =>
        refine ⟨k + 1, by omega, by go_num, ownT_step HO.out hlt HF.out d HV.out hq, ?_⟩
        exact (hb.trans (d.mono hb.size)).setCell (Nat.le_refl _) _
      case measure => simp [intOf]; omega
    · obtain rfl : k = fs.length := by omega
      go_wp2
      go_ret
      exact ⟨rfl, HO.out, hb, HO.out.2.1⟩

end Go.Proofs.Ytdakfcgjnmmdgaa
