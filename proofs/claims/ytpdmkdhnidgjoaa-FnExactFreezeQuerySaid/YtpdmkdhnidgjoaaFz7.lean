/- What impl.insertOnce answers at facts. Conditions: none beyond each theorem's own. Lists of lists of numbers in memory: their size, their copy, their comparison by the law. Conditions: none beyond each theorem's own. What impl.insertOnce answers at lists of numbers. Conditions: none beyond each theorem's own. slices.Insert of one element into a row without room. Conditions: none beyond each theorem's own. -/
import Derived.Test.YtpdmkdhnidgjoaaAddM
import Derived.Test.YtpdmkdhnidgjoaaEqList
import Derived.Laws.IdiomCopy
import Derived.Lib.AppendZerosOnto
import Derived.Lib.LazyBuf
import Derived.Lib.AppendStr
import Derived.Shelf.Spec.SlicesInsert
import Derived.Laws.NewBlocks

namespace Go.Proofs.Ytpdmkdhnidgjoaa
open Go.ChangeShapes Go.WideShapes Go.ChangeAt Go.RowKit Go.Sort
set_option linter.unusedVariables false
set_option linter.unusedSimpArgs false

set_option maxRecDepth 100000 in
set_option maxHeartbeats 1000000 in
theorem isEqF_any (g g' : Nat) (r2 : Int) (ys : List Int) (B : Option Addr) (c2 : Nat) (r : Int) (xs : List Int) (A' : Option Addr) (c' : Nat) (hl : ys.length ≤ 1048576) (hl2 : xs.length ≤ 1048576) (w : World) (hI : RI w B ys) (hJ : RI w A' xs)
    (hb : Box w g #[.int .i64 r, .slice A' xs.length c'] 70) (hb' : Box w g' #[.func (.func 110) #[] #[]] 103) :
    Calls Try.prog 122 #[.agg #[.int .i64 r2, .slice B ys.length c2], .pointer (some ⟨g', 0, none⟩), .pointer (some ⟨g, 0, none⟩)] w fun e w' => e = .returned (.bool (decide (cmpF r2 ys r xs = 0))) ∧ Below w.heap.size w w' := by
  have B0 := Lib.hid (below_alloc w (.cells #[.int .i64 r2, .slice B ys.length c2] 70))
  have XC := Lib.hid (impl_CompareFacts r2 r ys xs B A' c2 c' (by omega) (by omega) _ (hI.step B0.out) (hJ.step B0.out))
  have X0 := hb.step B0.out
  have X1 := hb'.step B0.out
  have g0 := X0.cell 0
  have g1 := X0.cell 1
  have g2 := X1.cell 0
  simp only [List.getElem?_toArray, List.getElem?_cons_zero, List.getElem?_cons_succ] at g0 g1 g2
  clear X0 X1 hb hb' hI hJ
  generalize cmpF r2 ys r xs = q at XC
  go_enter Try.func122, Try.ntmps122
  go_wp2_with fail
  refine XC.out.mono ?_
  rintro e w1 ⟨rfl, d⟩
  have D := Lib.hid (step B0.out d)
  clear d
  go_wp2
  go_ret
  exact ⟨ret_bool (by by_cases hq : q = 0 <;> simp [hq] <;> omega), D.out⟩

set_option maxRecDepth 100000 in
set_option maxHeartbeats 1000000 in
theorem isGrF_any (g g' : Nat) (r2 : Int) (ys : List Int) (B : Option Addr) (c2 : Nat) (r : Int) (xs : List Int) (A' : Option Addr) (c' : Nat) (hl : ys.length ≤ 1048576) (hl2 : xs.length ≤ 1048576) (w : World) (hI : RI w B ys) (hJ : RI w A' xs)
    (hb : Box w g #[.int .i64 r, .slice A' xs.length c'] 70) (hb' : Box w g' #[.func (.func 110) #[] #[]] 103) :
    Calls Try.prog 123 #[.agg #[.int .i64 r2, .slice B ys.length c2], .pointer (some ⟨g', 0, none⟩), .pointer (some ⟨g, 0, none⟩)] w fun e w' => e = .returned (.bool (decide (cmpF r2 ys r xs > 0))) ∧ Below w.heap.size w w' := by
  have B0 := Lib.hid (below_alloc w (.cells #[.int .i64 r2, .slice B ys.length c2] 70))
  have XC := Lib.hid (impl_CompareFacts r2 r ys xs B A' c2 c' (by omega) (by omega) _ (hI.step B0.out) (hJ.step B0.out))
  have X0 := hb.step B0.out
  have X1 := hb'.step B0.out
  have g0 := X0.cell 0
  have g1 := X0.cell 1
  have g2 := X1.cell 0
  simp only [List.getElem?_toArray, List.getElem?_cons_zero, List.getElem?_cons_succ] at g0 g1 g2
  clear X0 X1 hb hb' hI hJ
  generalize cmpF r2 ys r xs = q at XC
  go_enter Try.func123, Try.ntmps123
  go_wp2_with fail
  refine XC.out.mono ?_
  rintro e w1 ⟨rfl, d⟩
  have D := Lib.hid (step B0.out d)
  clear d
  go_wp2
  go_ret
  exact ⟨ret_bool (by by_cases hq : q > 0 <;> simp [hq] <;> omega), D.out⟩

/-- The first place at which p holds, or -1. -/
def IdxFF (w : World) (n : Nat) (p : Nat → Bool) (e : Ending) (w' : World) : Prop :=
  ((∃ k, k < n ∧ (∀ j, j < k → p j = false) ∧ p k = true ∧ e = .returned (.int .i64 k)) ∨ ((∀ j, j < n → p j = false) ∧ e = .returned (.int .i64 (-1)))) ∧ Below w.heap.size w w'

set_option maxRecDepth 100000 in
set_option maxHeartbeats 1000000 in
theorem indexFuncF0_any (A : Option Addr) (c : Nat) (l : FL) (a1 a2 : Value) (p : Nat → Bool) (hz : szF l ≤ 1048576) (w : World) (h : RF w A l)
    (hF : ∀ (k : Nat) (r2 : Int) (ys : List Int) (B : Option Addr) (c2 : Nat) (W : World), k < l.length → l.getD k (0, []) = (r2, ys) → ys.length ≤ 1048576 → RI W B ys → Below w.heap.size w W →
      Calls Try.prog 122 #[.agg #[.int .i64 r2, .slice B ys.length c2], a1, a2] W fun e w' => e = .returned (.bool (p k)) ∧ Below W.heap.size W w') :
    Calls Try.prog 126 #[.slice A l.length c, .func (.func 122) #[] #[a1, a2]] w (IdxFF w l.length p) := by
  have hl := szF_len hz
  have hl' : (l.length : Int) ≤ 1048576 := by omega
  have HI := Lib.hid h
  have HF := Lib.hid hF
  clear h hF
  go_enter Try.func126, Try.ntmps126
  go_wp2
  go_loopw [5, 8] (fun _ i wr => ∃ k : Nat, k ≤ l.length ∧ i = .int .i64 k ∧ Hid (∀ j, j < k → p j = false) ∧ Below w.heap.size w wr) (fun _ i _ => l.length - (intOf i).toNat)
  case atStart => exact ⟨0, by omega, rfl, Lib.hid (fun j hj => by omega), Below.refl _ _⟩
  case round =>
    obtain ⟨k, hk, rfl, ha, hb⟩ := hrel
    by_cases hlt : k < l.length
    · generalize hf : l.getD k (0, []) = f
      obtain ⟨r2, ys⟩ := f
      have HX := Lib.hid hf
      have hyl : ys.length ≤ 1048576 := by have := szF_elem hz hlt; rw [hf] at this; exact this
      obtain ⟨b, off, B, c2, rfl, n1, e0, e1, hxc, hcm, hI⟩ := (HI.out.step hb).at_ hlt hf
      have XF := Lib.hid fun (W : World) (hW : RI W B ys) (hW2 : Below w.heap.size w W) => HF.out k r2 ys B c2 W hlt HX.out hyl hW hW2
      have XI := Lib.hid hI
      generalize hp : p k = pb at XF
      have HP := Lib.hid hp
      clear hf hI hp
      have hk0 : (0 : Int) ≤ (k : Int) := by omega
      have hk1 : (k : Int) < (l.length : Int) := by omega
      go_wp2_with fail
      refine (XF.out _ XI.out hb).mono ?_
      rintro e u ⟨rfl, d⟩
      have hb2 := step hb d
      clear d
      cases pb
      · go_wp2
        go_roundw
        case rel => exact ⟨k + 1, by omega, by go_num, Lib.hid (fun j hj => by
          by_cases e : j = k
          · subst e; exact HP.out
          · exact ha.out j (by omega)), hb2⟩
        case measure => simp [intOf]; omega
      · go_wp2
        go_ret
        exact ⟨.inl ⟨k, hlt, ha.out, HP.out, rfl⟩, hb2⟩
    · obtain rfl : k = l.length := by omega
      go_wp2
      go_ret
      exact ⟨.inr ⟨ha.out, rfl⟩, hb⟩

set_option maxRecDepth 100000 in
set_option maxHeartbeats 1000000 in
theorem indexFuncF1_any (A : Option Addr) (c : Nat) (l : FL) (a1 a2 : Value) (p : Nat → Bool) (hz : szF l ≤ 1048576) (w : World) (h : RF w A l)
    (hF : ∀ (k : Nat) (r2 : Int) (ys : List Int) (B : Option Addr) (c2 : Nat) (W : World), k < l.length → l.getD k (0, []) = (r2, ys) → ys.length ≤ 1048576 → RI W B ys → Below w.heap.size w W →
      Calls Try.prog 123 #[.agg #[.int .i64 r2, .slice B ys.length c2], a1, a2] W fun e w' => e = .returned (.bool (p k)) ∧ Below W.heap.size W w') :
    Calls Try.prog 126 #[.slice A l.length c, .func (.func 123) #[] #[a1, a2]] w (IdxFF w l.length p) := by
  have hl := szF_len hz
  have hl' : (l.length : Int) ≤ 1048576 := by omega
  have HI := Lib.hid h
  have HF := Lib.hid hF
  clear h hF
  go_enter Try.func126, Try.ntmps126
  go_wp2
  go_loopw [5, 8] (fun _ i wr => ∃ k : Nat, k ≤ l.length ∧ i = .int .i64 k ∧ Hid (∀ j, j < k → p j = false) ∧ Below w.heap.size w wr) (fun _ i _ => l.length - (intOf i).toNat)
  case atStart => exact ⟨0, by omega, rfl, Lib.hid (fun j hj => by omega), Below.refl _ _⟩
  case round =>
    obtain ⟨k, hk, rfl, ha, hb⟩ := hrel
    by_cases hlt : k < l.length
    · generalize hf : l.getD k (0, []) = f
      obtain ⟨r2, ys⟩ := f
      have HX := Lib.hid hf
      have hyl : ys.length ≤ 1048576 := by have := szF_elem hz hlt; rw [hf] at this; exact this
      obtain ⟨b, off, B, c2, rfl, n1, e0, e1, hxc, hcm, hI⟩ := (HI.out.step hb).at_ hlt hf
      have XF := Lib.hid fun (W : World) (hW : RI W B ys) (hW2 : Below w.heap.size w W) => HF.out k r2 ys B c2 W hlt HX.out hyl hW hW2
      have XI := Lib.hid hI
      generalize hp : p k = pb at XF
      have HP := Lib.hid hp
      clear hf hI hp
      have hk0 : (0 : Int) ≤ (k : Int) := by omega
      have hk1 : (k : Int) < (l.length : Int) := by omega
      go_wp2_with fail
      refine (XF.out _ XI.out hb).mono ?_
      rintro e u ⟨rfl, d⟩
      have hb2 := step hb d
      clear d
      cases pb
      · go_wp2
        go_roundw
        case rel => exact ⟨k + 1, by omega, by go_num, Lib.hid (fun j hj => by
          by_cases e : j = k
          · subst e; exact HP.out
          · exact ha.out j (by omega)), hb2⟩
        case measure => simp [intOf]; omega
      · go_wp2
        go_ret
        exact ⟨.inl ⟨k, hlt, ha.out, HP.out, rfl⟩, hb2⟩
    · obtain rfl : k = l.length := by omega
      go_wp2
      go_ret
      exact ⟨.inr ⟨ha.out, rfl⟩, hb⟩

set_option maxRecDepth 100000 in
theorem containsFuncF_any (A : Option Addr) (c : Nat) (l : FL) (a1 a2 : Value) (p : Nat → Bool) (hz : szF l ≤ 1048576) (w : World) (h : RF w A l) (res : Bool) (hres : res = true ↔ ∃ k, k < l.length ∧ p k = true)
    (hF : ∀ (k : Nat) (r2 : Int) (ys : List Int) (B : Option Addr) (c2 : Nat) (W : World), k < l.length → l.getD k (0, []) = (r2, ys) → ys.length ≤ 1048576 → RI W B ys → Below w.heap.size w W →
      Calls Try.prog 122 #[.agg #[.int .i64 r2, .slice B ys.length c2], a1, a2] W fun e w' => e = .returned (.bool (p k)) ∧ Below W.heap.size W w') :
    Calls Try.prog 125 #[.slice A l.length c, .func (.func 122) #[] #[a1, a2]] w fun e w' => e = .returned (.bool res) ∧ Below w.heap.size w w' := by
  have XI := Lib.hid (indexFuncF0_any A c l a1 a2 p hz w h hF)
  have HR := Lib.hid hres
  clear h hF hres
  go_enter Try.func125, Try.ntmps125
  go_wp2_with fail
  refine XI.out.mono ?_
  rintro e u ⟨hx, d⟩
  have D := Lib.hid d
  clear d
  rcases hx with ⟨k, hk, _, hp, rfl⟩ | ⟨hn, rfl⟩
  · have E := Lib.hid (show res = true from HR.out.2 ⟨k, hk, hp⟩)
    have hk0 : (0 : Int) ≤ (k : Int) := by omega
    clear hp
    go_wp2
    go_ret
    exact ⟨ret_bool (by rw [E.out]), D.out⟩
  · have E := Lib.hid (show res = false by
      cases hr : res
      · rfl
      · obtain ⟨k, hk, hp⟩ := HR.out.1 hr
        rw [hn k hk] at hp
        cases hp)
    clear hn
    go_wp2
    go_ret
    exact ⟨ret_bool (by rw [E.out]), D.out⟩

set_option maxRecDepth 100000 in
set_option maxHeartbeats 1000000 in
theorem copyEachF_any (A : Option Addr) (c : Nat) (fs : FL) (hz : szF fs ≤ 1048576) (w : World) (h : RF w A fs) :
    Calls Try.prog 124 #[.slice A fs.length c, .func (.func 111) #[] #[]] w (CopyL w fs) := by
  have hl := szF_len hz
  obtain ⟨C, hC, hCs, hmk⟩ := makeFacts fs.length hl
  have HI := Lib.hid h
  have HC := Lib.hid hC
  have HS := Lib.hid hCs
  clear h hC hCs
  have hl' : (fs.length : Int) ≤ 1048576 := by omega
  go_enter Try.func124, Try.ntmps124
  go_wp2
  go_loopw [6, 7, 13] (fun _ _ i wr => ∃ k : Nat, k ≤ fs.length ∧ i = .int .i64 k ∧ OwnP wr w.heap.size wr.heap.size w.heap.size (fs.length * 2) k fs ∧ Below w.heap.size w wr) (fun _ _ i _ => fs.length - (intOf i).toNat)
  case atStart =>
    refine ⟨0, by omega, rfl, ⟨Nat.le_refl _, by simp, fun i => if i % 2 = 0 then .int .i64 0 else .slice none 0 0, fun _ => 0, ⟨C, by rw [heap_alloc_new], HS.out, fun i hi => HC.out i hi⟩, fun j hj => by omega, fun i j _ hj => by omega⟩, below_alloc _ _⟩
  case round =>
    obtain ⟨k, hk, rfl, ho, hb⟩ := hrel
    have HO := Lib.hid ho
    clear ho
    by_cases hlt : k < fs.length
    · generalize hf : fs.getD k (0, []) = f
      obtain ⟨r, xs⟩ := f
      have HF := Lib.hid hf
      have hxl : xs.length ≤ 1048576 := by have := szF_elem hz hlt; rw [hf] at this; exact this
      obtain ⟨b, off, B, c2, rfl, _, e0, e1, hxc, hcm, hI⟩ := (HI.out.step hb).at_ hlt hf
      clear hf
      unfold maxLen at hcm
      have HX := Lib.hid (hI.step (below_alloc wr (.cells #[.int .i64 r, .slice B xs.length c2] 70)))
      clear hI
      go_wp2_with fail
      refine (copyFact_any r B c2 xs hxl _ HX.out).mono ?_
      rintro e u ⟨A3, c3, q, rfl, hv, d0⟩
      have d := below_new d0
      have hv2 : OwnV u w.heap.size u.heap.size (.slice A3 xs.length c3) q xs := hv.mono (by have := HO.out.2.1; (try simp); omega) (Nat.le_refl _)
      have hq : 0 < xs.length → wr.heap.size ≤ q := fun hp => by
        obtain ⟨_, _, he, _, _, hx⟩ := hv
        obtain ⟨_, h2, _⟩ := hx hp
        (try simp at h2); omega
      have hg : w.heap.size < wr.heap.size := HO.out.2.1
      obtain ⟨F, bs, hrow, _, _⟩ := HO.out.2.2
      have hrow2 : u.rowIs w.heap.size 70 (fs.length * 2) F := World.rowIs.of_block hrow (d.block _ hg)
      have q0 := hrow2.cell (show k * 2 < fs.length * 2 by omega)
      have q1 := hrow2.cell (show k * 2 + 1 < fs.length * 2 by omega)
      have q2 := hrow2.frozen (k * 2)
      have q3 := hrow2.frozen (k * 2 + 1)
      have HV := Lib.hid hv2
      clear hrow hrow2 hv hv2 d0
      go_wp2
      go_roundw
      case rel =>
        refine ⟨k + 1, by omega, by go_num, own_step HO.out (by omega) HF.out d HV.out hq, ?_⟩
        exact ((hb.trans (d.mono hb.size)).setCell (Nat.le_refl _) _).setCell (Nat.le_refl _) _
      case measure => simp [intOf]; omega
    · obtain rfl : k = fs.length := by omega
      go_wp2
      go_ret
      exact ⟨rfl, HO.out, hb, HO.out.2.1⟩

end Go.Proofs.Ytpdmkdhnidgjoaa

namespace Go.Proofs.Ytpdmkdhnidgjoaa
open Go.ChangeShapes Go.WideShapes Go.ChangeAt Go.RowKit
set_option linter.unusedVariables false
set_option linter.unusedSimpArgs false

abbrev TL := List (List Int)
/-- At the address A lie the lists ts, all of it in blocks from lo to below hi. -/
def Tups (w : World) (lo hi : Nat) (A : Option Addr) (ts : TL) : Prop :=
  ts ≠ [] → ∃ b off, A = some ⟨b, off, none⟩ ∧ lo ≤ b ∧ b < hi ∧ ∀ k, k < ts.length → ∃ B c, w.cell? ⟨b, off + k, none⟩ = some (.slice B (ts.getD k []).length c) ∧ (ts.getD k []).length ≤ c ∧ c ≤ maxLen ∧ Ints w lo hi B (ts.getD k [])
theorem Tups.keep {w w' : World} {lo hi : Nat} {A : Option Addr} {ts : TL} (h : Tups w lo hi A ts) (hk : ∀ b, lo ≤ b → b < hi → w'.heap[b]? = w.heap[b]?) : Tups w' lo hi A ts := fun hx => by
  obtain ⟨b, off, h1, h2, h3, h4⟩ := h hx
  refine ⟨b, off, h1, h2, h3, fun k hkx => ?_⟩
  obtain ⟨B, c, h6, h7, h8, h9⟩ := h4 k hkx
  exact ⟨B, c, (World.cell?_of_block (w := w) (a := ⟨b, off + k, none⟩) (hk b h2 h3)).trans h6, h7, h8, h9.keep hk⟩
theorem Tups.mono {w : World} {lo hi lo' hi' : Nat} {A : Option Addr} {ts : TL} (h : Tups w lo hi A ts) (h1 : lo' ≤ lo) (h2 : hi ≤ hi') : Tups w lo' hi' A ts := fun hx => by
  obtain ⟨b, off, e, h3, h4, h5⟩ := h hx
  refine ⟨b, off, e, by omega, by omega, fun k hk => ?_⟩
  obtain ⟨B, c, g2, g3, g4, g5⟩ := h5 k hk
  exact ⟨B, c, g2, g3, g4, g5.mono h1 h2⟩
/-- At A lie the lists ts. -/
def RT (w : World) (A : Option Addr) (ts : TL) : Prop := Tups w 0 w.heap.size A ts
theorem RT.step {w w' : World} {A : Option Addr} {ts : TL} (h : RT w A ts) (b : Below w.heap.size w w') : RT w' A ts := (Tups.keep h fun k _ h2 => b.block k h2).mono (Nat.le_refl _) b.size
theorem RT.at_ {w : World} {A : Option Addr} {ts : TL} (h : RT w A ts) {k : Nat} (hk : k < ts.length) {xs : List Int} (hf : ts.getD k [] = xs) :
    ∃ b off B c, A = some ⟨b, off, none⟩ ∧ b < w.heap.size ∧ w.cell? ⟨b, off + k, none⟩ = some (.slice B xs.length c) ∧ xs.length ≤ c ∧ c ≤ maxLen ∧ RI w B xs := by
  obtain ⟨b, off, h1, h2, h3, h4⟩ := h (by rintro rfl; simp at hk)
  obtain ⟨B, c, h6, h7, h8, h9⟩ := h4 k hk
  subst hf
  exact ⟨b, off, B, c, h1, h3, h6, h7, h8, h9⟩

section
variable {H : Type} {enc : TypeId × Value → H} {w : World}
end

def sumT (l : TL) : Nat := (l.map fun f => f.length).sum
/-- How many values a list of lists holds, each list counted, too. -/
def szT (l : TL) : Int := (l.length : Int) + (sumT l : Int)
theorem szT_nonneg (l : TL) : 0 ≤ szT l := by unfold szT; omega
theorem szT_len {l : TL} (h : szT l ≤ 1048576) : l.length ≤ 1048576 := by unfold szT at h; omega
theorem sumT_take (l : TL) (k : Nat) (hk : k < l.length) : sumT (l.take (k + 1)) = sumT (l.take k) + (l.getD k []).length := by
  unfold sumT
  rw [List.take_succ_eq_append_getElem hk, List.map_append, List.sum_append]
  simp [List.getD_eq_getElem?_getD, hk]
theorem sumT_le (l : TL) (k : Nat) : sumT (l.take k) ≤ sumT l := by
  have : sumT l = sumT (l.take k) + sumT (l.drop k) := by
    unfold sumT
    rw [← List.sum_append, ← List.map_append, List.take_append_drop]
  omega
theorem szT_elem {l : TL} (h : szT l ≤ 1048576) {k : Nat} (hk : k < l.length) : (l.getD k []).length ≤ 1048576 := by
  have h1 := sumT_take l k hk
  have h2 := sumT_le l (k + 1)
  unfold szT at h
  omega

set_option maxRecDepth 100000 in
theorem ints_info : (Try.prog.info? 22).map (fun i => (i.zero, i.size, i.bytes)) = some (some (.slice none 0 0), 1, 24) := by kernel_rfl

/-- Block g begins with the first k of the lists ts, their numbers each in a block of its own, all from lo to below hi. -/
def OwnT (w : World) (lo hi g m k : Nat) (ts : TL) : Prop :=
  lo ≤ g ∧ g < hi ∧ ∃ (F : Nat → Value) (bs : Nat → Nat), w.rowIs g 22 m F ∧ (∀ j, j < k → OwnV w lo hi (F j) (bs j) (ts.getD j [])) ∧
    (∀ i j, i < j → j < k → 0 < (ts.getD i []).length → 0 < (ts.getD j []).length → bs i ≠ bs j)

theorem OwnT.tups {w : World} {lo hi g m : Nat} {ts : TL} (h : OwnT w lo hi g m ts.length ts) (hm : ts.length ≤ m) : Tups w lo hi (some ⟨g, 0, none⟩) ts := fun _ => by
  obtain ⟨h1, h2, F, bs, hr, he, _⟩ := h
  refine ⟨g, 0, rfl, h1, h2, fun k hk => ?_⟩
  have e1 := he k hk
  obtain ⟨A, c, hv, _⟩ := id e1
  rw [hv] at e1
  obtain ⟨_, hc, hcm, hi⟩ := e1.ints
  refine ⟨A, c, ?_, hc, hcm, hi⟩
  rw [Nat.zero_add, World.rowIs.cell hr (show k < m by omega), hv]
theorem OwnT.rt {w : World} {lo g m : Nat} {ts : TL} (h : OwnT w lo w.heap.size g m ts.length ts) (hm : ts.length ≤ m) : RT w (some ⟨g, 0, none⟩) ts := (h.tups hm).mono (Nat.zero_le _) (Nat.le_refl _)

/-- One list more is stored. -/
theorem ownT_step {wr u : World} {lo g m k : Nat} {ts : TL} (h : OwnT wr lo wr.heap.size g m k ts) (hkm : k < m) {xs : List Int} (hf : ts.getD k [] = xs) (hb : Below wr.heap.size wr u)
    {v : Value} {q : Nat} (hv : OwnV u lo u.heap.size v q xs) (hq : 0 < xs.length → wr.heap.size ≤ q) :
    OwnT (u.setCell ⟨g, k, none⟩ v) lo (u.setCell ⟨g, k, none⟩ v).heap.size g m (k + 1) ts := by
  rw [set_size]
  obtain ⟨h1, h2, F, bs, hr, he, hd⟩ := h
  have hs := hb.size
  have hr2 : u.rowIs g 22 m F := World.rowIs.of_block hr (hb.block g h2)
  have far : ∀ b, b ≠ g → (u.setCell ⟨g, k, none⟩ v).heap[b]? = u.heap[b]? := fun b hbg => Below.heap_setCell _ ⟨g, k, none⟩ _ b hbg
  have ne : ∀ b, (∃ c, u.heap[b]? = some (.cells c 3 (0, 0))) → b ≠ g := by
    rintro b ⟨c, hc⟩ rfl
    obtain ⟨c2, hc2, _⟩ := hr2
    rw [hc] at hc2
    injection hc2 with hc2
    injection hc2 with _ ht
    exact absurd ht (by decide)
  have hlt : ∀ j, j < k → 0 < (ts.getD j []).length → bs j < wr.heap.size := fun j hj hp => by
    obtain ⟨A, c, _, _, _, hx⟩ := he j hj
    exact (hx hp).2.2.1
  refine ⟨h1, by omega, _, fun j => if j = k then q else bs j, hr2.set k _, fun j hj => ?_, fun i j hij hj hi0 hj0 => ?_⟩
  · by_cases e : j = k
    · subst e
      simp only [if_pos, hf]
      exact hv.keep fun _ _ hc => far _ (ne _ hc)
    · simp only [e, if_false]
      have e2 : OwnV u lo wr.heap.size (F j) (bs j) (ts.getD j []) := (he j (by omega)).keep fun _ a _ => hb.block _ a
      exact (e2.mono (Nat.le_refl _) hs).keep fun _ _ hc => far _ (ne _ hc)
  · by_cases e : j = k
    · subst e
      have e' : i ≠ j := by omega
      simp only [if_pos, e', if_false]
      have := hlt i hij hi0
      rw [hf] at hj0
      have := hq hj0
      omega
    · have e' : i ≠ k := by omega
      simp only [e, e', if_false]
      exact hd i j hij (by omega) hi0 hj0

theorem ownT_new (w : World) (n : Nat) (C : Array Value) (hC : ∀ i, i < n → C[i]? = some (.slice none 0 0)) (hS : C.size = n) (ts : TL) :
    OwnT (w.alloc (.cells C 22)) w.heap.size (w.alloc (.cells C 22)).heap.size w.heap.size n 0 ts :=
  ⟨Nat.le_refl _, by simp, fun _ => .slice none 0 0, fun _ => 0, ⟨C, by rw [heap_alloc_new], hS, fun i hi => hC i hi⟩, fun j hj => by omega, fun i j _ hj => by omega⟩

end Go.Proofs.Ytpdmkdhnidgjoaa

namespace Go.Proofs.Ytpdmkdhnidgjoaa
open Go.ChangeShapes Go.WideShapes Go.ChangeAt Go.RowKit Go.Sort
set_option linter.unusedVariables false
set_option linter.unusedSimpArgs false

/-- The first place at which p holds, or -1. -/
def IdxFT (w : World) (n : Nat) (p : Nat → Bool) (e : Ending) (w' : World) : Prop :=
  ((∃ k, k < n ∧ (∀ j, j < k → p j = false) ∧ p k = true ∧ e = .returned (.int .i64 k)) ∨ ((∀ j, j < n → p j = false) ∧ e = .returned (.int .i64 (-1)))) ∧ Below w.heap.size w w'

/-- A list of lists of the call's own, at the head of block g; the numbers' blocks lie from lo on. -/
def CopyT (w : World) (fs : TL) (e : Ending) (w' : World) : Prop :=
  e = .returned (.slice (some ⟨w.heap.size, 0, none⟩) fs.length fs.length) ∧ OwnT w' w.heap.size w'.heap.size w.heap.size fs.length fs.length fs ∧ Below w.heap.size w w' ∧ w.heap.size < w'.heap.size
end Go.Proofs.Ytpdmkdhnidgjoaa

namespace Go.Proofs.Ytpdmkdhnidgjoaa
open Go.ChangeShapes Go.WideShapes Go.ChangeAt Go.RowKit Go.Sort Go.Lib
set_option linter.unusedVariables false
set_option linter.unusedSimpArgs false

/-- copy at elements of K cells. -/
theorem run_copyK {P : Program} (K : Nat) (w : World) (dT sT ty elem : TypeId) (b o dLen dCap : Nat) (a : Addr) (sLen sCap : Nat) (cs : List Value)
    (hu : P.underlying dT = some (.slice elem)) (hs : (P.info? elem).map (·.size) = some K) (hn : cs.length = Nat.min sLen dLen * K)
    (hsrc : ∀ j v, cs[j]? = some v → w.cell? (a.add j) = some v) (hc : ∀ j, j < cs.length → (w.cell? ⟨b, o + j, none⟩).isSome = true) (hf : ∀ j, j < cs.length → w.frozen? ⟨b, o + j, none⟩ = false) (h1 : ∀ v ∈ cs, v.oneCell' = true) :
    (Builtin.copy_ #[dT, sT] ty #[.slice (some ⟨b, o, none⟩) dLen dCap, .slice (some a) sLen sCap]).run P w = .ok (goInt (Nat.min sLen dLen)) (w.setCells b o cs) := by
  have hl := run_loadCells_list (P := P) w a cs hsrc
  have hst := run_storeCells_cells (P := P) b o cs 0 w (by simpa using hc) (by simpa using hf) h1
  cases hq : P.info? elem with
  | none => simp [hq] at hs
  | some i =>
    have hi : i.size = K := by simpa [hq] using hs
    simp [Builtin.copy_, run_underlying hu, Builtin.lenOf, Builtin.firstCells, sizeOf, typeInfo, hq, hi, ← hn, hl, hst]

/-- A new row that holds cs. -/
def InsOut (w : World) (e : TypeId) (K n : Nat) (cs : List Value) (x : Ending) (w' : World) : Prop :=
  ∃ G, x = .returned (.slice (some ⟨w.heap.size, 0, none⟩) n G) ∧ w'.ownsRow w.heap.size e K (.slice (some ⟨w.heap.size, 0, none⟩) n G) n cs ∧ Below w.heap.size w w'

/-- The row behind the two copies. -/
theorem ins_row {W : World} {g : Nat} {e : TypeId} {K n i G : Nat} {ROW : Array Value} {cs vs : List Value} (hi : i < n) (hcl : cs.length = n * K) (hvl : vs.length = K) (hR : W.heap[g]? = some (.cells ROW e (0, 0))) (hRs : ROW.size = G * K) (hG : n + 1 ≤ G) (hGm : G ≤ maxLen)
    (hR0 : ∀ (j : Nat) (v : Value), (cs.take (i * K))[j]? = some v → ROW[j]? = some v) (base : Nat) (hb : base ≤ g) :
    ((W.setCells g (i * K) vs).setCells g ((i + 1) * K) (cs.drop (i * K))).ownsRow base e K (.slice (some ⟨g, 0, none⟩) (n + 1) G) (n + 1) (cs.take (i * K) ++ vs ++ cs.drop (i * K)) := by
  have hiK : i * K + K ≤ n * K := by rw [← Nat.succ_mul]; exact Nat.mul_le_mul_right K hi
  have hi1 : (i + 1) * K = i * K + K := Nat.succ_mul i K
  have hn1 : (n + 1) * K = n * K + K := Nat.succ_mul n K
  have hGK : (n + 1) * K ≤ G * K := Nat.mul_le_mul_right K hG
  have h0 : W.rowIs g e (G * K) (fun j => ROW[j]?.getD undef) := ⟨ROW, hR, hRs, fun j hj => by simp [show j < ROW.size by omega]⟩
  have h2 := Go.rowIs_setCells (cs.drop (i * K)) ((i + 1) * K) _ _ (Go.rowIs_setCells vs (i * K) _ _ h0)
  obtain ⟨C, hC, hCs, hCf⟩ := h2
  have hlen : (cs.take (i * K) ++ vs ++ cs.drop (i * K)).length = (n + 1) * K := by
    simp only [List.length_append, List.length_take, List.length_drop]; omega
  refine ⟨hlen, .inr ⟨g, G, C, rfl, hb, hC, hG, hGm, hCs, ?_⟩⟩
  apply List.ext_getElem?
  intro j
  by_cases hj : j < (n + 1) * K
  · rw [List.getElem?_take_of_lt hj, Array.getElem?_toList, hCf j (by omega)]
    by_cases h3 : (i + 1) * K ≤ j
    · have hlt : j < (i + 1) * K + (cs.drop (i * K)).length := by rw [List.length_drop]; omega
      simp only [if_pos (And.intro h3 hlt)]
      rw [List.getElem?_append_right (by simp only [List.length_append, List.length_take]; omega)]
      have e1 : j - (cs.take (i * K) ++ vs).length = j - (i + 1) * K := by simp only [List.length_append, List.length_take]; omega
      rw [e1]
      have hl : j - (i + 1) * K < (cs.drop (i * K)).length := by omega
      rw [List.getElem?_eq_getElem hl]
      rfl
    · simp only [if_neg (show ¬ ((i + 1) * K ≤ j ∧ j < (i + 1) * K + (cs.drop (i * K)).length) from fun h => h3 h.1)]
      rw [List.getElem?_append_left (by simp only [List.length_append, List.length_take]; omega)]
      by_cases h4 : i * K ≤ j
      · have hlt : j < i * K + vs.length := by omega
        simp only [if_pos (And.intro h4 hlt)]
        rw [List.getElem?_append_right (by simp only [List.length_take]; omega)]
        have e1 : j - (cs.take (i * K)).length = j - i * K := by simp only [List.length_take]; omega
        rw [e1]
        have hl : j - i * K < vs.length := by omega
        rw [List.getElem?_eq_getElem hl]
        rfl
      · simp only [if_neg (show ¬ (i * K ≤ j ∧ j < i * K + vs.length) from fun h => h4 h.1)]
        rw [List.getElem?_append_left (by simp only [List.length_take]; omega)]
        have hl : j < (cs.take (i * K)).length := by simp only [List.length_take]; omega
        have := hR0 j _ (List.getElem?_eq_getElem hl)
        rw [List.getElem?_eq_getElem hl, this]
        rfl
  · rw [List.getElem?_eq_none (by simp only [List.length_take, Array.length_toList]; omega), List.getElem?_eq_none (by omega)]
/-- The row behind an append at the end. -/
theorem end_row {W : World} {e : TypeId} {K n G : Nat} {Z cs vs : List Value} (hcl : cs.length = n * K) (hvl : vs.length = K) (hZ : Z.length = (G - (n + 1)) * K) (hG : n + 1 ≤ G) (hGm : G ≤ maxLen) (ROW : Array Value) (hR : ROW.toList = (cs ++ vs) ++ Z) :
    (W.alloc (.cells ROW e)).ownsRow W.heap.size e K (.slice (some ⟨W.heap.size, 0, none⟩) (n + 1) G) (n + 1) (cs ++ vs) := by
  have hn1 : (n + 1) * K = n * K + K := Nat.succ_mul n K
  have hl : (cs ++ vs).length = (n + 1) * K := by rw [List.length_append]; omega
  refine ⟨hl, .inr ⟨_, G, ROW, rfl, Nat.le_refl _, heap_alloc_new W _, hG, hGm, ?_, ?_⟩⟩
  · rw [← Array.length_toList, hR, List.length_append, hl, hZ, ← Nat.add_mul]
    congr 1; omega
  · rw [hR, List.take_append_of_le_length (by omega), List.take_of_length_le (by omega)]
end Go.Proofs.Ytpdmkdhnidgjoaa
