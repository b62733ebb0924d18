/- What impl.insertOnce answers at facts. Conditions: none beyond each theorem's own. What impl.insertOnce answers at lists of numbers. Conditions: none beyond each theorem's own. slices.Insert of one element into a row without room. Conditions: none beyond each theorem's own. slices.Insert of one element into a row without room. Conditions: none beyond each theorem's own. -/
import Derived.Test.YtimlpdcambmcjaaGreatS5
import Derived.Test.YtimlpdcambmcjaaGreatS6
import Derived.Laws.IdiomCopy
import Derived.Lib.AppendZerosOnto
import Derived.Lib.LazyBuf
import Derived.Lib.AppendStr
import Derived.Shelf.Spec.SlicesInsert
import Derived.Laws.NewBlocks

namespace Go.Proofs.YtimlpdcambmcjaaGreat
open Go.ChangeShapes Go.WideShapes Go.ChangeAt Go.RowKit Go.Sort
set_option linter.unusedVariables false
set_option linter.unusedSimpArgs false

set_option maxRecDepth 100000 in
set_option maxHeartbeats 1000000 in
theorem isEqF_any (g g' : Nat) (r2 : Int) (ys : List Int) (B : Option Addr) (c2 : Nat) (r : Int) (xs : List Int) (A' : Option Addr) (c' : Nat) (hl : ys.length ≤ 1048576) (hl2 : xs.length ≤ 1048576) (w : World) (hI : RI w B ys) (hJ : RI w A' xs)
    (hb : Box w g #[.int .i64 r, .slice A' xs.length c'] 77) (hb' : Box w g' #[.func (.func 104) #[] #[]] 117) :
    Calls Tryz.prog 173 #[.agg #[.int .i64 r2, .slice B ys.length c2], .pointer (some ⟨g', 0, none⟩), .pointer (some ⟨g, 0, none⟩)] w fun e w' => e = .returned (.bool (decide (cmpF r2 ys r xs = 0))) ∧ Below w.heap.size w w' := by
  have B0 := Lib.hid (below_alloc w (.cells #[.int .i64 r2, .slice B ys.length c2] 77))
  have XC := Lib.hid (impl_CompareFacts r2 r ys xs B A' c2 c' (by omega) (by omega) _ (hI.step B0.out) (hJ.step B0.out))
  have X0 := hb.step B0.out
  have X1 := hb'.step B0.out
  have g0 := X0.cell 0
  have g1 := X0.cell 1
  have g2 := X1.cell 0
  simp only [List.getElem?_toArray, List.getElem?_cons_zero, List.getElem?_cons_succ] at g0 g1 g2
  clear X0 X1 hb hb' hI hJ
  generalize cmpF r2 ys r xs = q at XC
  go_enter Tryz.func173, Tryz.ntmps173
  go_wp2_with fail
  refine XC.out.mono ?_
  rintro e w1 ⟨rfl, d⟩
  have D := Lib.hid (step B0.out d)
  clear d
  go_wp2
  go_ret
  exact ⟨ret_bool (by by_cases hq : q = 0 <;> simp [hq] <;> omega), D.out⟩

set_option maxRecDepth 100000 in
set_option maxHeartbeats 1000000 in
theorem isGrF_any (g g' : Nat) (r2 : Int) (ys : List Int) (B : Option Addr) (c2 : Nat) (r : Int) (xs : List Int) (A' : Option Addr) (c' : Nat) (hl : ys.length ≤ 1048576) (hl2 : xs.length ≤ 1048576) (w : World) (hI : RI w B ys) (hJ : RI w A' xs)
    (hb : Box w g #[.int .i64 r, .slice A' xs.length c'] 77) (hb' : Box w g' #[.func (.func 104) #[] #[]] 117) :
    Calls Tryz.prog 174 #[.agg #[.int .i64 r2, .slice B ys.length c2], .pointer (some ⟨g', 0, none⟩), .pointer (some ⟨g, 0, none⟩)] w fun e w' => e = .returned (.bool (decide (cmpF r2 ys r xs > 0))) ∧ Below w.heap.size w w' := by
  have B0 := Lib.hid (below_alloc w (.cells #[.int .i64 r2, .slice B ys.length c2] 77))
  have XC := Lib.hid (impl_CompareFacts r2 r ys xs B A' c2 c' (by omega) (by omega) _ (hI.step B0.out) (hJ.step B0.out))
  have X0 := hb.step B0.out
  have X1 := hb'.step B0.out
  have g0 := X0.cell 0
  have g1 := X0.cell 1
  have g2 := X1.cell 0
  simp only [List.getElem?_toArray, List.getElem?_cons_zero, List.getElem?_cons_succ] at g0 g1 g2
  clear X0 X1 hb hb' hI hJ
  generalize cmpF r2 ys r xs = q at XC
  go_enter Tryz.func174, Tryz.ntmps174
  go_wp2_with fail
  refine XC.out.mono ?_
  rintro e w1 ⟨rfl, d⟩
  have D := Lib.hid (step B0.out d)
  clear d
  go_wp2
  go_ret
  exact ⟨ret_bool (by by_cases hq : q > 0 <;> simp [hq] <;> omega), D.out⟩

/-- The first place at which p holds, or -1. -/
def IdxFF (w : World) (n : Nat) (p : Nat → Bool) (e : Ending) (w' : World) : Prop :=
  ((∃ k, k < n ∧ (∀ j, j < k → p j = false) ∧ p k = true ∧ e = .returned (.int .i64 k)) ∨ ((∀ j, j < n → p j = false) ∧ e = .returned (.int .i64 (-1)))) ∧ Below w.heap.size w w'

set_option maxRecDepth 100000 in
set_option maxHeartbeats 1000000 in
theorem indexFuncF0_any (A : Option Addr) (c : Nat) (l : FL) (a1 a2 : Value) (p : Nat → Bool) (hz : szF l ≤ 1048576) (w : World) (h : RF w A l)
    (hF : ∀ (k : Nat) (r2 : Int) (ys : List Int) (B : Option Addr) (c2 : Nat) (W : World), k < l.length → l.getD k (0, []) = (r2, ys) → ys.length ≤ 1048576 → RI W B ys → Below w.heap.size w W →
      Calls Tryz.prog 173 #[.agg #[.int .i64 r2, .slice B ys.length c2], a1, a2] W fun e w' => e = .returned (.bool (p k)) ∧ Below W.heap.size W w') :
    Calls Tryz.prog 177 #[.slice A l.length c, .func (.func 173) #[] #[a1, a2]] w (IdxFF w l.length p) := by
  have hl := szF_len hz
  have hl' : (l.length : Int) ≤ 1048576 := by omega
  have HI := Lib.hid h
  have HF := Lib.hid hF
  clear h hF
  go_enter Tryz.func177, Tryz.ntmps177
  go_wp2
  go_loopw [5, 8] (fun _ i wr => ∃ k : Nat, k ≤ l.length ∧ i = .int .i64 k ∧ Hid (∀ j, j < k → p j = false) ∧ Below w.heap.size w wr) (fun _ i _ => l.length - (intOf i).toNat)
  case atStart => exact ⟨0, by omega, rfl, Lib.hid (fun j hj => by omega), Below.refl _ _⟩
  case round =>
    obtain ⟨k, hk, rfl, ha, hb⟩ := hrel
    by_cases hlt : k < l.length
    · generalize hf : l.getD k (0, []) = f
      obtain ⟨r2, ys⟩ := f
      have HX := Lib.hid hf
      have hyl : ys.length ≤ 1048576 := by have := szF_elem hz hlt; rw [hf] at this; exact this
      obtain ⟨b, off, B, c2, rfl, n1, e0, e1, hxc, hcm, hI⟩ := (HI.out.step hb).at_ hlt hf
      have XF := Lib.hid fun (W : World) (hW : RI W B ys) (hW2 : Below w.heap.size w W) => HF.out k r2 ys B c2 W hlt HX.out hyl hW hW2
      have XI := Lib.hid hI
      generalize hp : p k = pb at XF
      have HP := Lib.hid hp
      clear hf hI hp
      have hk0 : (0 : Int) ≤ (k : Int) := by omega
      have hk1 : (k : Int) < (l.length : Int) := by omega
      go_wp2_with fail
      refine (XF.out _ XI.out hb).mono ?_
      rintro e u ⟨rfl, d⟩
      have hb2 := step hb d
      clear d
      cases pb
      · go_wp2
        go_roundw
        case rel => exact ⟨k + 1, by omega, by go_num, Lib.hid (fun j hj => by
          by_cases e : j = k
          · subst e; exact HP.out
          · exact ha.out j (by omega)), hb2⟩
        case measure => simp [intOf]; omega
      · go_wp2
        go_ret
        exact ⟨.inl ⟨k, hlt, ha.out, HP.out, rfl⟩, hb2⟩
    · obtain rfl : k = l.length := by omega
      go_wp2
      go_ret
      exact ⟨.inr ⟨ha.out, rfl⟩, hb⟩

set_option maxRecDepth 100000 in
set_option maxHeartbeats 1000000 in
theorem indexFuncF1_any (A : Option Addr) (c : Nat) (l : FL) (a1 a2 : Value) (p : Nat → Bool) (hz : szF l ≤ 1048576) (w : World) (h : RF w A l)
    (hF : ∀ (k : Nat) (r2 : Int) (ys : List Int) (B : Option Addr) (c2 : Nat) (W : World), k < l.length → l.getD k (0, []) = (r2, ys) → ys.length ≤ 1048576 → RI W B ys → Below w.heap.size w W →
      Calls Tryz.prog 174 #[.agg #[.int .i64 r2, .slice B ys.length c2], a1, a2] W fun e w' => e = .returned (.bool (p k)) ∧ Below W.heap.size W w') :
    Calls Tryz.prog 177 #[.slice A l.length c, .func (.func 174) #[] #[a1, a2]] w (IdxFF w l.length p) := by
  have hl := szF_len hz
  have hl' : (l.length : Int) ≤ 1048576 := by omega
  have HI := Lib.hid h
  have HF := Lib.hid hF
  clear h hF
  go_enter Tryz.func177, Tryz.ntmps177
  go_wp2
  go_loopw [5, 8] (fun _ i wr => ∃ k : Nat, k ≤ l.length ∧ i = .int .i64 k ∧ Hid (∀ j, j < k → p j = false) ∧ Below w.heap.size w wr) (fun _ i _ => l.length - (intOf i).toNat)
  case atStart => exact ⟨0, by omega, rfl, Lib.hid (fun j hj => by omega), Below.refl _ _⟩
  case round =>
    obtain ⟨k, hk, rfl, ha, hb⟩ := hrel
    by_cases hlt : k < l.length
    · generalize hf : l.getD k (0, []) = f
      obtain ⟨r2, ys⟩ := f
      have HX := Lib.hid hf
      have hyl : ys.length ≤ 1048576 := by have := szF_elem hz hlt; rw [hf] at this; exact this
      obtain ⟨b, off, B, c2, rfl, n1, e0, e1, hxc, hcm, hI⟩ := (HI.out.step hb).at_ hlt hf
      have XF := Lib.hid fun (W : World) (hW : RI W B ys) (hW2 : Below w.heap.size w W) => HF.out k r2 ys B c2 W hlt HX.out hyl hW hW2
      have XI := Lib.hid hI
      generalize hp : p k = pb at XF
      have HP := Lib.hid hp
      clear hf hI hp
      have hk0 : (0 : Int) ≤ (k : Int) := by omega
      have hk1 : (k : Int) < (l.length : Int) := by omega
      go_wp2_with fail
      refine (XF.out _ XI.out hb).mono ?_
      rintro e u ⟨rfl, d⟩
      have hb2 := step hb d
      clear d
      cases pb
      · go_wp2
        go_roundw
        case rel => exact ⟨k + 1, by omega, by go_num, Lib.hid (fun j hj => by
          by_cases e : j = k
          · subst e; exact HP.out
          · exact ha.out j (by omega)), hb2⟩
        case measure => simp [intOf]; omega
      · go_wp2
        go_ret
        exact ⟨.inl ⟨k, hlt, ha.out, HP.out, rfl⟩, hb2⟩
    · obtain rfl : k = l.length := by omega
      go_wp2
      go_ret
      exact ⟨.inr ⟨ha.out, rfl⟩, hb⟩

set_option maxRecDepth 100000 in
theorem containsFuncF_any (A : Option Addr) (c : Nat) (l : FL) (a1 a2 : Value) (p : Nat → Bool) (hz : szF l ≤ 1048576) (w : World) (h : RF w A l) (res : Bool) (hres : res = true ↔ ∃ k, k < l.length ∧ p k = true)
    (hF : ∀ (k : Nat) (r2 : Int) (ys : List Int) (B : Option Addr) (c2 : Nat) (W : World), k < l.length → l.getD k (0, []) = (r2, ys) → ys.length ≤ 1048576 → RI W B ys → Below w.heap.size w W →
      Calls Tryz.prog 173 #[.agg #[.int .i64 r2, .slice B ys.length c2], a1, a2] W fun e w' => e = .returned (.bool (p k)) ∧ Below W.heap.size W w') :
    Calls Tryz.prog 176 #[.slice A l.length c, .func (.func 173) #[] #[a1, a2]] w fun e w' => e = .returned (.bool res) ∧ Below w.heap.size w w' := by
  have XI := Lib.hid (indexFuncF0_any A c l a1 a2 p hz w h hF)
  have HR := Lib.hid hres
  clear h hF hres
  go_enter Tryz.func176, Tryz.ntmps176
  go_wp2_with fail
  refine XI.out.mono ?_
  rintro e u ⟨hx, d⟩
  have D := Lib.hid d
  clear d
  rcases hx with ⟨k, hk, _, hp, rfl⟩ | ⟨hn, rfl⟩
  · have E := Lib.hid (show res = true from HR.out.2 ⟨k, hk, hp⟩)
    have hk0 : (0 : Int) ≤ (k : Int) := by omega
    clear hp
    go_wp2
    go_ret
    exact ⟨ret_bool (by rw [E.out]), D.out⟩
  · have E := Lib.hid (show res = false by
      cases hr : res
      · rfl
      · obtain ⟨k, hk, hp⟩ := HR.out.1 hr
        rw [hn k hk] at hp
        cases hp)
    clear hn
    go_wp2
    go_ret
    exact ⟨ret_bool (by rw [E.out]), D.out⟩

set_option maxRecDepth 100000 in
set_option maxHeartbeats 1000000 in
theorem copyEachF_any (A : Option Addr) (c : Nat) (fs : FL) (hz : szF fs ≤ 1048576) (w : World) (h : RF w A fs) :
    Calls Tryz.prog 175 #[.slice A fs.length c, .func (.func 154) #[] #[]] w (CopyL w fs) := by
  have hl := szF_len hz
  obtain ⟨C, hC, hCs, hmk⟩ := makeFacts fs.length hl
  have HI := Lib.hid h
  have HC := Lib.hid hC
  have HS := Lib.hid hCs
  clear h hC hCs
  have hl' : (fs.length : Int) ≤ 1048576 := by omega
  go_enter Tryz.func175, Tryz.ntmps175
  go_wp2
  go_loopw [6, 7, 13] (fun _ _ i wr => ∃ k : Nat, k ≤ fs.length ∧ i = .int .i64 k ∧ OwnP wr w.heap.size wr.heap.size w.heap.size (fs.length * 2) k fs ∧ Below w.heap.size w wr) (fun _ _ i _ => fs.length - (intOf i).toNat)
  case atStart =>
    refine ⟨0, by omega, rfl, ⟨Nat.le_refl _, by simp, fun i => if i % 2 = 0 then .int .i64 0 else .slice none 0 0, fun _ => 0, ⟨C, by rw [heap_alloc_new], HS.out, fun i hi => HC.out i hi⟩, fun j hj => by omega, fun i j _ hj => by omega⟩, below_alloc _ _⟩
  case round =>
    obtain ⟨k, hk, rfl, ho, hb⟩ := hrel
    have HO := Lib.hid ho
    clear ho
    by_cases hlt : k < fs.length
    · generalize hf : fs.getD k (0, []) = f
      obtain ⟨r, xs⟩ := f
      have HF := Lib.hid hf
      have hxl : xs.length ≤ 1048576 := by have := szF_elem hz hlt; rw [hf] at this; exact this
      obtain ⟨b, off, B, c2, rfl, _, e0, e1, hxc, hcm, hI⟩ := (HI.out.step hb).at_ hlt hf
      clear hf
      unfold maxLen at hcm
      have HX := Lib.hid (hI.step (below_alloc wr (.cells #[.int .i64 r, .slice B xs.length c2] 77)))
      clear hI
      go_wp2_with fail
      refine (copyFact_any r B c2 xs hxl _ HX.out).mono ?_
      rintro e u ⟨A3, c3, q, rfl, hv, d0⟩
      have d := below_new d0
      have hv2 : OwnV u w.heap.size u.heap.size (.slice A3 xs.length c3) q xs := hv.mono (by have := HO.out.2.1; (try simp); omega) (Nat.le_refl _)
      have hq : 0 < xs.length → wr.heap.size ≤ q := fun hp => by
        obtain ⟨_, _, he, _, _, hx⟩ := hv
        obtain ⟨_, h2, _⟩ := hx hp
        (try simp at h2); omega
      have hg : w.heap.size < wr.heap.size := HO.out.2.1
      obtain ⟨F, bs, hrow, _, _⟩ := HO.out.2.2
      have hrow2 : u.rowIs w.heap.size 77 (fs.length * 2) F := World.rowIs.of_block hrow (d.block _ hg)
      have q0 := hrow2.cell (show k * 2 < fs.length * 2 by omega)
      have q1 := hrow2.cell (show k * 2 + 1 < fs.length * 2 by omega)
      have q2 := hrow2.frozen (k * 2)
      have q3 := hrow2.frozen (k * 2 + 1)
      have HV := Lib.hid hv2
      clear hrow hrow2 hv hv2 d0
      go_wp2
      go_roundw
      case rel =>
        refine ⟨k + 1, by omega, by go_num, own_step HO.out (by omega) HF.out d HV.out hq, ?_⟩
        exact ((hb.trans (d.mono hb.size)).setCell (Nat.le_refl _) _).setCell (Nat.le_refl _) _
      case measure => simp [intOf]; omega
    · obtain rfl : k = fs.length := by omega
      go_wp2
      go_ret
      exact ⟨rfl, HO.out, hb, HO.out.2.1⟩

end Go.Proofs.YtimlpdcambmcjaaGreat

namespace Go.Proofs.YtimlpdcambmcjaaGreat
open Go.ChangeShapes Go.WideShapes Go.ChangeAt Go.RowKit Go.Sort
set_option linter.unusedVariables false
set_option linter.unusedSimpArgs false

/-- The first place at which p holds, or -1. -/
def IdxFT (w : World) (n : Nat) (p : Nat → Bool) (e : Ending) (w' : World) : Prop :=
  ((∃ k, k < n ∧ (∀ j, j < k → p j = false) ∧ p k = true ∧ e = .returned (.int .i64 k)) ∨ ((∀ j, j < n → p j = false) ∧ e = .returned (.int .i64 (-1)))) ∧ Below w.heap.size w w'

/-- A list of lists of the call's own, at the head of block g; the numbers' blocks lie from lo on. -/
def CopyT (w : World) (fs : TL) (e : Ending) (w' : World) : Prop :=
  e = .returned (.slice (some ⟨w.heap.size, 0, none⟩) fs.length fs.length) ∧ OwnT w' w.heap.size w'.heap.size w.heap.size fs.length fs.length fs ∧ Below w.heap.size w w' ∧ w.heap.size < w'.heap.size
end Go.Proofs.YtimlpdcambmcjaaGreat

namespace Go.Proofs.YtimlpdcambmcjaaGreat
open Go.ChangeShapes Go.WideShapes Go.ChangeAt Go.RowKit Go.Sort Go.Lib
set_option linter.unusedVariables false
set_option linter.unusedSimpArgs false

/-- copy at elements of K cells. -/
theorem run_copyK {P : Program} (K : Nat) (w : World) (dT sT ty elem : TypeId) (b o dLen dCap : Nat) (a : Addr) (sLen sCap : Nat) (cs : List Value)
    (hu : P.underlying dT = some (.slice elem)) (hs : (P.info? elem).map (·.size) = some K) (hn : cs.length = Nat.min sLen dLen * K)
    (hsrc : ∀ j v, cs[j]? = some v → w.cell? (a.add j) = some v) (hc : ∀ j, j < cs.length → (w.cell? ⟨b, o + j, none⟩).isSome = true) (hf : ∀ j, j < cs.length → w.frozen? ⟨b, o + j, none⟩ = false) (h1 : ∀ v ∈ cs, v.oneCell' = true) :
    (Builtin.copy_ #[dT, sT] ty #[.slice (some ⟨b, o, none⟩) dLen dCap, .slice (some a) sLen sCap]).run P w = .ok (goInt (Nat.min sLen dLen)) (w.setCells b o cs) := by
  have hl := run_loadCells_list (P := P) w a cs hsrc
  have hst := run_storeCells_cells (P := P) b o cs 0 w (by simpa using hc) (by simpa using hf) h1
  cases hq : P.info? elem with
  | none => simp [hq] at hs
  | some i =>
    have hi : i.size = K := by simpa [hq] using hs
    simp [Builtin.copy_, run_underlying hu, Builtin.lenOf, Builtin.firstCells, sizeOf, typeInfo, hq, hi, ← hn, hl, hst]

/-- A new row that holds cs. -/
def InsOut (w : World) (e : TypeId) (K n : Nat) (cs : List Value) (x : Ending) (w' : World) : Prop :=
  ∃ G, x = .returned (.slice (some ⟨w.heap.size, 0, none⟩) n G) ∧ w'.ownsRow w.heap.size e K (.slice (some ⟨w.heap.size, 0, none⟩) n G) n cs ∧ Below w.heap.size w w'

/-- The row behind the two copies. -/
theorem ins_row {W : World} {g : Nat} {e : TypeId} {K n i G : Nat} {ROW : Array Value} {cs vs : List Value} (hi : i < n) (hcl : cs.length = n * K) (hvl : vs.length = K) (hR : W.heap[g]? = some (.cells ROW e (0, 0))) (hRs : ROW.size = G * K) (hG : n + 1 ≤ G) (hGm : G ≤ maxLen)
    (hR0 : ∀ (j : Nat) (v : Value), (cs.take (i * K))[j]? = some v → ROW[j]? = some v) (base : Nat) (hb : base ≤ g) :
    ((W.setCells g (i * K) vs).setCells g ((i + 1) * K) (cs.drop (i * K))).ownsRow base e K (.slice (some ⟨g, 0, none⟩) (n + 1) G) (n + 1) (cs.take (i * K) ++ vs ++ cs.drop (i * K)) := by
  have hiK : i * K + K ≤ n * K := by rw [← Nat.succ_mul]; exact Nat.mul_le_mul_right K hi
  have hi1 : (i + 1) * K = i * K + K := Nat.succ_mul i K
  have hn1 : (n + 1) * K = n * K + K := Nat.succ_mul n K
  have hGK : (n + 1) * K ≤ G * K := Nat.mul_le_mul_right K hG
  have h0 : W.rowIs g e (G * K) (fun j => ROW[j]?.getD undef) := ⟨ROW, hR, hRs, fun j hj => by simp [show j < ROW.size by omega]⟩
  have h2 := Go.rowIs_setCells (cs.drop (i * K)) ((i + 1) * K) _ _ (Go.rowIs_setCells vs (i * K) _ _ h0)
  obtain ⟨C, hC, hCs, hCf⟩ := h2
  have hlen : (cs.take (i * K) ++ vs ++ cs.drop (i * K)).length = (n + 1) * K := by
    simp only [List.length_append, List.length_take, List.length_drop]; omega
  refine ⟨hlen, .inr ⟨g, G, C, rfl, hb, hC, hG, hGm, hCs, ?_⟩⟩
  apply List.ext_getElem?
  intro j
  by_cases hj : j < (n + 1) * K
  · rw [List.getElem?_take_of_lt hj, Array.getElem?_toList, hCf j (by omega)]
    by_cases h3 : (i + 1) * K ≤ j
    · have hlt : j < (i + 1) * K + (cs.drop (i * K)).length := by rw [List.length_drop]; omega
      simp only [if_pos (And.intro h3 hlt)]
      rw [List.getElem?_append_right (by simp only [List.length_append, List.length_take]; omega)]
      have e1 : j - (cs.take (i * K) ++ vs).length = j - (i + 1) * K := by simp only [List.length_append, List.length_take]; omega
      rw [e1]
      have hl : j - (i + 1) * K < (cs.drop (i * K)).length := by omega
      rw [List.getElem?_eq_getElem hl]
      rfl
    · simp only [if_neg (show ¬ ((i + 1) * K ≤ j ∧ j < (i + 1) * K + (cs.drop (i * K)).length) from fun h => h3 h.1)]
      rw [List.getElem?_append_left (by simp only [List.length_append, List.length_take]; omega)]
      by_cases h4 : i * K ≤ j
      · have hlt : j < i * K + vs.length := by omega
        simp only [if_pos (And.intro h4 hlt)]
        rw [List.getElem?_append_right (by simp only [List.length_take]; omega)]
        have e1 : j - (cs.take (i * K)).length = j - i * K := by simp only [List.length_take]; omega
        rw [e1]
        have hl : j - i * K < vs.length := by omega
        rw [List.getElem?_eq_getElem hl]
        rfl
      · simp only [if_neg (show ¬ (i * K ≤ j ∧ j < i * K + vs.length) from fun h => h4 h.1)]
        rw [List.getElem?_append_left (by simp only [List.length_take]; omega)]
        have hl : j < (cs.take (i * K)).length := by simp only [List.length_take]; omega
        have := hR0 j _ (List.getElem?_eq_getElem hl)
        rw [List.getElem?_eq_getElem hl, this]
        rfl
  · rw [List.getElem?_eq_none (by simp only [List.length_take, Array.length_toList]; omega), List.getElem?_eq_none (by omega)]
/-- The row behind an append at the end. -/
theorem end_row {W : World} {e : TypeId} {K n G : Nat} {Z cs vs : List Value} (hcl : cs.length = n * K) (hvl : vs.length = K) (hZ : Z.length = (G - (n + 1)) * K) (hG : n + 1 ≤ G) (hGm : G ≤ maxLen) (ROW : Array Value) (hR : ROW.toList = (cs ++ vs) ++ Z) :
    (W.alloc (.cells ROW e)).ownsRow W.heap.size e K (.slice (some ⟨W.heap.size, 0, none⟩) (n + 1) G) (n + 1) (cs ++ vs) := by
  have hn1 : (n + 1) * K = n * K + K := Nat.succ_mul n K
  have hl : (cs ++ vs).length = (n + 1) * K := by rw [List.length_append]; omega
  refine ⟨hl, .inr ⟨_, G, ROW, rfl, Nat.le_refl _, heap_alloc_new W _, hG, hGm, ?_, ?_⟩⟩
  · rw [← Array.length_toList, hR, List.length_append, hl, hZ, ← Nat.add_mul]
    congr 1; omega
  · rw [hR, List.take_append_of_le_length (by omega), List.take_of_length_le (by omega)]
end Go.Proofs.YtimlpdcambmcjaaGreat

namespace Go.Proofs.YtimlpdcambmcjaaGreat
open Go.ChangeShapes Go.WideShapes Go.ChangeAt Go.RowKit Go.Sort Go.Lib
set_option linter.unusedVariables false
set_option linter.unusedSimpArgs false


set_option maxRecDepth 100000 in
set_option maxHeartbeats 1000000 in
theorem insertF_mid (b n i vb : Nat) (cs vs : List Value) (w : World) (hi : i < n) (hn : n ≤ 1048576) (hcl : cs.length = n * 2) (hvl : vs.length = 2) (hbw : b < w.heap.size) (hvw : vb < w.heap.size)
    (hcs : ∀ j v, cs[j]? = some v → w.cell? ⟨b, j, none⟩ = some v) (hvs : ∀ j v, vs[j]? = some v → w.cell? ⟨vb, j, none⟩ = some v) (h1c : ∀ v ∈ cs, v.oneCell' = true) (h1v : ∀ v ∈ vs, v.oneCell' = true) (R : List Value) (hR : R = cs.take (i * 2) ++ vs ++ cs.drop (i * 2)) :
    Calls Tryz.prog 178 #[.slice (some ⟨b, 0, none⟩) n n, .int .i64 i, .slice (some ⟨vb, 0, none⟩) 1 1] w (InsOut w 77 2 (n + 1) R) := by
  obtain ⟨i0, hi0, hz0, hzs, hzb⟩ := info_parts fact_info
  have hsz : (Tryz.prog.info? 77).map (·.size) = some 2 := by rw [hi0]; simp [hzs]
  have hold : (Builtin.firstCells i0.size i (.slice (some ⟨b, 0, none⟩) i n)).run Tryz.prog w.drew = .ok (cs.take (i * 2)).toArray w.drew := by
    rw [hzs]
    exact run_firstCells_some w.drew 2 i ⟨b, 0, none⟩ i n (cs.take (i * 2)) (by rw [List.length_take]; omega) (fun j v hj => by
      rw [Addr.add_lit, Nat.zero_add]
      rw [List.getElem?_take] at hj
      split at hj
      · exact hcs j v hj
      · cases hj)
  obtain ⟨G, hG⟩ : ∃ G, G = grownCap w (n + 1) n 77 := ⟨_, rfl⟩
  obtain ⟨ROW, hROW⟩ : ∃ ROW : Array Value, ROW = (cs.take (i * 2)).toArray ++ Builtin.zeroCells ((.agg #[.int .i64 0, .slice none 0 0] : Value).cells) (n + 1 - i) ++ Builtin.zeroCells ((.agg #[.int .i64 0, .slice none 0 0] : Value).cells) (G - (n + 1)) := ⟨_, rfl⟩
  have hrz : ∀ ty, (Builtin.append_ #[46, 3] ty #[.slice (some ⟨b, 0, none⟩) i n, .int .i64 ((n : Int) + 1 - (i : Int))]).run Tryz.prog w =
      .ok (.slice (some ⟨w.heap.size, 0, none⟩) (n + 1) G) (w.drew.alloc (.cells ROW 77)) := fun ty => by
    have h := Lib.run_append_grow_zeros w 46 3 ty 77 i0 _ .i64 .i64 Tryz.underlying46 Tryz.underlying3 hi0 hz0 (some ⟨b, 0, none⟩) i n (cs.take (i * 2)) hold (n + 1 - i) (by omega) (by omega) (by omega) (by omega) (by rw [hzb]; omega) (by rw [hzb, show i + (n + 1 - i) = n + 1 by omega]; exact growslice_fits (by omega) (by omega))
    rw [show i + (n + 1 - i) = n + 1 by omega, ← hG, ← hROW] at h
    rw [show (n : Int) + 1 - (i : Int) = ((n + 1 - i : Nat) : Int) by omega]
    exact h
  have hGn : n + 1 ≤ G := by rw [hG]; exact grownCap_ge w _ _ _
  have hGm : G ≤ maxLen := by rw [hG]; exact grownCap_le_maxLen w (n + 1) n 77 (by unfold maxLen; omega)
  have hRs : ROW.size = G * 2 := by
    rw [hROW]
    simp [Builtin.zeroCells, Value.cells, hcl]
    omega
  have hR0 : ∀ (j : Nat) (v : Value), (cs.take (i * 2))[j]? = some v → ROW[j]? = some v := fun j v hj => by
    have hlt := (List.getElem?_eq_some_iff.1 hj).1
    rw [hROW, Array.getElem?_append_left (by simp at hlt ⊢; omega), Array.getElem?_append_left (by simp at hlt ⊢; omega)]
    simpa using hj
  obtain ⟨W1, hW1⟩ : ∃ W1, W1 = w.drew.alloc (.cells ROW 77) := ⟨_, rfl⟩
  have hH : W1.heap[w.heap.size]? = some (.cells ROW 77 (0, 0)) := by rw [hW1]; exact heap_alloc_new w.drew _
  have hN : ∀ j, j < (n + 1) * 2 → (W1.cell? ⟨w.heap.size, j, none⟩).isSome = true := fun j hj => by
    rw [hW1, World.cell?_alloc_at (w := w.drew) ROW _ w.heap.size j rfl, Array.getElem?_eq_getElem (by omega)]; rfl
  have hNf : ∀ j, W1.frozen? ⟨w.heap.size, j, none⟩ = false := fun j => by rw [hW1]; exact World.frozen?_alloc_at (w := w.drew) ROW _ w.heap.size j rfl
  have hOb : ∀ j v, w.cell? ⟨b, j, none⟩ = some v → W1.cell? ⟨b, j, none⟩ = some v := fun j v h => by rw [hW1, World.cell?_alloc_past (w := w.drew) _ b j hbw]; exact h
  have hOv : ∀ j v, w.cell? ⟨vb, j, none⟩ = some v → W1.cell? ⟨vb, j, none⟩ = some v := fun j v h => by rw [hW1, World.cell?_alloc_past (w := w.drew) _ vb j hvw]; exact h
  have hcpA : ∀ (W : World), (∀ x, W.cell? x = W1.cell? x) → (∀ x, W.frozen? x = W1.frozen? x) → ∀ ty dc, (Builtin.copy_ #[46, 46] ty #[.slice (some ⟨w.heap.size, i * 2, none⟩) (n + 1 - i) dc, .slice (some ⟨vb, 0, none⟩) 1 1]).run Tryz.prog W = .ok (goInt 1) (W.setCells w.heap.size (i * 2) vs) := fun W hWc hWf ty dc => by
    have h := run_copyK (P := Tryz.prog) 2 W 46 46 ty 77 w.heap.size (i * 2) (n + 1 - i) dc ⟨vb, 0, none⟩ 1 1 vs Tryz.underlying46 hsz (by rw [hvl]; simp only [Nat.min_def]; split <;> omega)
      (fun j v hj => by rw [Addr.add_lit, Nat.zero_add, hWc]; exact hOv _ v (hvs j v hj))
      (fun j hj => by rw [hWc]; exact hN _ (by omega)) (fun j hj => by rw [hWf]; exact hNf _) h1v
    rw [show Nat.min 1 (n + 1 - i) = 1 by simp only [Nat.min_def]; split <;> omega] at h
    exact h
  have hbN : b ≠ w.heap.size := by omega
  have hdl : (cs.drop (i * 2)).length = (n - i) * 2 := by rw [List.length_drop]; omega
  have hcpB : ∀ (W : World), (∀ x, W.cell? x = (W1.setCells w.heap.size (i * 2) vs).cell? x) → (∀ x, W.frozen? x = (W1.setCells w.heap.size (i * 2) vs).frozen? x) → ∀ ty dc sc, (Builtin.copy_ #[46, 46] ty #[.slice (some ⟨w.heap.size, (i + 1) * 2, none⟩) (n + 1 - (i + 1)) dc, .slice (some ⟨b, i * 2, none⟩) (n - i) sc]).run Tryz.prog W = .ok (goInt ((n - i : Nat) : Int)) (W.setCells w.heap.size ((i + 1) * 2) (cs.drop (i * 2))) := fun W hWc hWf ty dc sc => by
    have h := run_copyK (P := Tryz.prog) 2 W 46 46 ty 77 w.heap.size ((i + 1) * 2) (n + 1 - (i + 1)) dc ⟨b, i * 2, none⟩ (n - i) sc (cs.drop (i * 2)) Tryz.underlying46 hsz (by rw [hdl]; simp only [Nat.min_def]; split <;> omega)
      (fun j v hj => by
        rw [Addr.add_lit, hWc, World.cell?_setCells_out _ _ _ _ _ (fun h _ => absurd h hbN)]
        exact hOb _ v (hcs (i * 2 + j) v (by rwa [List.getElem?_drop] at hj)))
      (fun j hj => by rw [hWc]; exact isSome_setCells _ _ _ _ (fun t ht => hN _ (by omega)) _ (hN _ (by omega)))
      (fun j hj => by rw [hWf, World.frozen?_setCells]; exact hNf _) (fun v hv => h1c v (List.mem_of_mem_drop hv))
    rw [show Nat.min (n - i) (n + 1 - (i + 1)) = n - i by simp only [Nat.min_def]; split <;> omega] at h
    exact h
  have HEND := Lib.hid (show InsOut w 77 2 (n + 1) R (.returned (.slice (some ⟨w.heap.size, 0, none⟩) (n + 1) G)) ((W1.setCells w.heap.size (i * 2) vs).setCells w.heap.size ((i + 1) * 2) (cs.drop (i * 2))) from
    ⟨G, rfl, hR ▸ ins_row hi hcl hvl hH hRs hGn hGm hR0 _ (Nat.le_refl _), Go.below_setCells (Nat.le_refl _) _ _ _ (Go.below_setCells (Nat.le_refl _) _ _ _ (by rw [hW1]; exact ((Below.refl _ w).drew).alloc (Nat.le_refl _) _))⟩)
  have hGi : ¬ (G = i) := by omega
  have hGim : ¬ (G = i + 1) := by omega
  have hni : ¬ (n = i) := by omega
  have hz2 : ((i : Int) == (n : Int)) = false := by simp; omega
  have hz3 : (n : Int) < (n : Int) + 1 := by omega
  have hGi' : (i : Int) + 1 ≤ (G : Int) := by omega
  have hGG : (n : Int) + 1 ≤ (G : Int) := by omega
  have hGM : (G : Int) ≤ 9223372036854775807 := by unfold maxLen at hGm; omega
  have hin : (i : Int) < (n : Int) := by omega
  have hn' : (n : Int) ≤ 1048576 := by omega
  have hE1 : ∀ x, ((w.alloc (.cells ROW 77)).drew).cell? x = W1.cell? x := fun x => by rw [hW1]; rfl
  have hE2 : ∀ x, ((w.alloc (.cells ROW 77)).drew).frozen? x = W1.frozen? x := fun x => by rw [hW1]; rfl
  have hF1 : ∀ x, (((w.alloc (.cells ROW 77)).drew.setCells w.heap.size (i * 2) vs).drew).cell? x = (W1.setCells w.heap.size (i * 2) vs).cell? x := fun x => by rw [hW1]; rfl
  have hF2 : ∀ x, (((w.alloc (.cells ROW 77)).drew.setCells w.heap.size (i * 2) vs).drew).frozen? x = (W1.setCells w.heap.size (i * 2) vs).frozen? x := fun x => by rw [hW1]; rfl
  have HEND2 := Lib.hid (show InsOut w 77 2 (n + 1) R (.returned (.slice (some ⟨w.heap.size, 0, none⟩) (n + 1) G)) ((((w.alloc (.cells ROW 77)).drew.setCells w.heap.size (i * 2) vs).drew).setCells w.heap.size ((i + 1) * 2) (cs.drop (i * 2))) from by
    have h := HEND.out
    rw [hW1] at h
    obtain ⟨G', e1, e2, e3⟩ := h
    refine ⟨G', e1, ?_, ?_⟩
    · rw [show ((((w.alloc (.cells ROW 77)).drew.setCells w.heap.size (i * 2) vs).drew).setCells w.heap.size ((i + 1) * 2) (cs.drop (i * 2))) = (((w.drew.alloc (.cells ROW 77)).setCells w.heap.size (i * 2) vs).setCells w.heap.size ((i + 1) * 2) (cs.drop (i * 2))).drew by simp only [drew_setCells]; rfl]
      exact e2.drew
    · rw [show ((((w.alloc (.cells ROW 77)).drew.setCells w.heap.size (i * 2) vs).drew).setCells w.heap.size ((i + 1) * 2) (cs.drop (i * 2))) = (((w.drew.alloc (.cells ROW 77)).setCells w.heap.size (i * 2) vs).setCells w.heap.size ((i + 1) * 2) (cs.drop (i * 2))).drew by simp only [drew_setCells]; rfl]
      exact e3.drew)
  have hrz2 : ∀ ty, (Builtin.append_ #[46, 3] ty #[.slice (some ⟨b, 0, none⟩) i n, .int .i64 ((n : Int) + 1 - (i : Int))]).run Tryz.prog w = .ok (.slice (some ⟨w.heap.size, 0, none⟩) (n + 1) G) (w.drew.alloc (.cells ROW 77)) := hrz
  have hw1 : IntKind.i64.wrap ((i : Int) + 1) = (i : Int) + 1 := by rw [IntKind.wrap_i64]; omega
  have hb1 : (0 : Int) ≤ (i : Int) + 1 := by omega
  have hin2 : (i : Int) ≤ (n : Int) := by omega
  have hin3 : i ≤ n := by omega
  have htn : ((i : Int) + 1).toNat = i + 1 := by omega
  clear hold hROW hG hRs hR0 hW1 hH HEND hN hNf hOb hOv hrz hR
  go_enter Tryz.func178, Tryz.ntmps178
  go_wp2_with (first
    | (at_builtin; refine Lib.wpList_append_run _ rfl _ _ _ _ rfl _ _ rfl rfl _ _ (hrz2 _) ?_)
    | (refine wpList_copy_runI _ rfl _ _ 46 46 rfl _ _ rfl rfl (hcpA _ hE1 hE2 _ _) ?_))
  go_frame
  go_region_law (refine step_copy_runI rfl _ _ 46 46 rfl (.slice (some ⟨w.heap.size, (i + 1) * 2, none⟩) (n + 1 - (i + 1)) (G - (i + 1))) (.slice (some ⟨b, i * 2, none⟩) (n - i) (n - i)) (by simp [Act.eval, Act.put]) (by simp [Act.eval, Act.put]) (hcpB _ hF1 hF2 3 (G - (i + 1)) (n - i)) ?_)
  go_wp2
  go_ret
  exact HEND2.out

set_option maxRecDepth 100000 in
set_option maxHeartbeats 1000000 in
theorem insertF_end (b n vb : Nat) (cs vs : List Value) (w : World) (hn : n ≤ 1048576) (hcl : cs.length = n * 2) (hvl : vs.length = 2) (hbw : b < w.heap.size) (hvw : vb < w.heap.size)
    (hcs : ∀ j v, cs[j]? = some v → w.cell? ⟨b, j, none⟩ = some v) (hvs : ∀ j v, vs[j]? = some v → w.cell? ⟨vb, j, none⟩ = some v) (h1v : ∀ v ∈ vs, v.oneCell' = true) :
    Calls Tryz.prog 178 #[.slice (some ⟨b, 0, none⟩) n n, .int .i64 n, .slice (some ⟨vb, 0, none⟩) 1 1] w (InsOut w 77 2 (n + 1) (cs ++ vs)) := by
  obtain ⟨i0, hi0, hz0, hzs, hzb⟩ := info_parts fact_info
  have hsrc : Src Tryz.prog i0.size 46 (.slice (some ⟨vb, 0, none⟩) 1 1) 1 vs w := by
    rw [hzs]
    exact Src.ofSlice w Tryz.underlying46 ⟨vb, 0, none⟩ 1 1 vs (by omega) (fun j u hj => by rw [Addr.add_lit, Nat.zero_add]; exact hvs j u hj) h1v
  have hold : (Builtin.firstCells i0.size n (.slice (some ⟨b, 0, none⟩) n n)).run Tryz.prog w.drew = .ok cs.toArray w.drew := by
    rw [hzs]
    exact run_firstCells_some w.drew 2 n ⟨b, 0, none⟩ n n cs (by omega) (fun j v hj => by rw [Addr.add_lit, Nat.zero_add]; exact hcs j v hj)
  obtain ⟨G, hG⟩ : ∃ G, G = grownCap w (n + 1) n 77 := ⟨_, rfl⟩
  obtain ⟨ROW, hROW⟩ : ∃ ROW : Array Value, ROW = (cs ++ vs).toArray ++ Builtin.zeroCells ((.agg #[.int .i64 0, .slice none 0 0] : Value).cells) (G - (n + 1)) := ⟨_, rfl⟩
  have hrun : ∀ ty, (Builtin.append_ #[46, 46] ty #[.slice (some ⟨b, 0, none⟩) n n, .slice (some ⟨vb, 0, none⟩) 1 1]).run Tryz.prog w = .ok (.slice (some ⟨w.heap.size, 0, none⟩) (n + 1) G) (w.drew.alloc (.cells ROW 77)) := fun ty => by
    have h := run_append_grow_src w 46 46 ty 77 i0 _ Tryz.underlying46 hi0 hz0 (some ⟨b, 0, none⟩) n n cs hold _ 1 vs hsrc (by omega) (by omega) (by rw [hzb]; exact growslice_fits (by omega) (by omega))
    rw [← hG, ← hROW] at h
    exact h
  have hGn : n + 1 ≤ G := by rw [hG]; exact grownCap_ge w _ _ _
  have hGm : G ≤ maxLen := by rw [hG]; exact grownCap_le_maxLen w (n + 1) n 77 (by unfold maxLen; omega)
  have HEND := Lib.hid (show InsOut w 77 2 (n + 1) (cs ++ vs) (.returned (.slice (some ⟨w.heap.size, 0, none⟩) (n + 1) G)) ((w.alloc (.cells ROW 77)).drew) from
    ⟨G, rfl, (end_row (W := w) (e := 77) (K := 2) hcl hvl (Z := (Builtin.zeroCells ((.agg #[.int .i64 0, .slice none 0 0] : Value).cells) (G - (n + 1))).toList) (by simp [Builtin.zeroCells, Value.cells]) hGn hGm ROW (by rw [hROW]; simp)).drew, ((Below.refl _ w).alloc (Nat.le_refl _) _).drew⟩)
  clear hold hROW hG hGn hGm
  go_enter Tryz.func178, Tryz.ntmps178
  go_wp2_with (at_builtin; refine Lib.wpList_append_run _ rfl _ _ _ _ rfl _ _ rfl rfl _ _ (hrun _) ?_)
  all_goals (go_ret; exact HEND.out)

end Go.Proofs.YtimlpdcambmcjaaGreat
