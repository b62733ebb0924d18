/- What the law of AddFact carries from call to call. Conditions: none beyond each theorem's own. -/
import Derived.Test.YtighalbnpgmdfaaGreatMark
namespace Go.Proofs.YtighalbnpgmdfaaGreat
open Go.ChangeShapes Go.WideShapes Go.ChangeAt Go.RowKit Go.Sort
set_option linter.unusedVariables false
set_option linter.unusedSimpArgs false

theorem OwnP.keep {w w' : World} {lo hi g m k : Nat} {fs : FL} (h : OwnP w lo hi g m k fs) (hk : ∀ b, lo ≤ b → b < hi → w'.heap[b]? = w.heap[b]?) : OwnP w' lo hi g m k fs := by
  obtain ⟨h1, h2, F, bs, hr, he, hd⟩ := h
  refine ⟨h1, h2, F, bs, World.rowIs.of_block hr (hk g h1 h2), fun j hj => ?_, hd⟩
  obtain ⟨e0, e1⟩ := he j hj
  exact ⟨e0, e1.keep fun a b _ => hk _ a b⟩
/-- A list of the call's own that lies below block hi, whatever is made later. -/
def PX (w : World) (lo hi g m : Nat) (fs : FL) : Prop := OwnP w lo hi g m fs.length fs ∧ hi ≤ w.heap.size ∧ fs.length * 2 ≤ m
theorem PX.step {w w' : World} {lo hi g m : Nat} {fs : FL} (h : PX w lo hi g m fs) (b : Below w.heap.size w w') : PX w' lo hi g m fs :=
  ⟨h.1.keep fun q _ hq => b.block q (by have := h.2.1; omega), Nat.le_trans h.2.1 b.size, h.2.2⟩
theorem PX.keep {w w' : World} {lo hi g m : Nat} {fs : FL} (h : PX w lo hi g m fs) (hk : ∀ b, lo ≤ b → b < hi → w'.heap[b]? = w.heap[b]?) (hs : w.heap.size ≤ w'.heap.size) : PX w' lo hi g m fs :=
  ⟨h.1.keep hk, Nat.le_trans h.2.1 hs, h.2.2⟩
theorem PX.rf {w : World} {lo hi g m : Nat} {fs : FL} (h : PX w lo hi g m fs) : RF w (some ⟨g, 0, none⟩) fs := (h.1.facts h.2.2).mono (Nat.zero_le _) h.2.1
theorem Row.step {w w' : World} {g : Nat} {xs : List Int} (h : Row w g xs) (b : Below w.heap.size w w') : Row w' g xs := h.of_block (b.block _ (World.rowIs.lt h))

theorem addF_pos (l : FL) (r : Int) (xs : List Int) : 0 < (addF l r xs).length := by
  unfold addF
  split
  · rename_i h
    rcases l with _ | ⟨g, t⟩
    · cases h
    · simp
  · cases l with
    | nil => simp [addI]
    | cons g t => rw [addI]; split <;> simp
def AddP (w : World) (res : FL) (e : Ending) (w' : World) : Prop :=
  ∃ g cap, e = .returned (.slice (some ⟨g, 0, none⟩) res.length cap) ∧ PX w' w.heap.size w'.heap.size g (cap * 2) res ∧ Below w.heap.size w w'
theorem AddOut.toP {w : World} {l : FL} {r : Int} {xs : List Int} {e : Ending} {w' : World} (h : AddOut w (addF l r xs) e w') : AddP w (addF l r xs) e w' := by
  obtain ⟨A, c, cs, bs, he, ho, hb⟩ := h
  obtain ⟨g, cap, hv, _, _⟩ := ho.1.form (addF_pos l r xs)
  injection hv with e1 e2 e3
  subst e1 e3
  obtain ⟨_, hc, hp⟩ := ho.to_P
  exact ⟨g, c, he, ⟨hp, Nat.le_refl _, by omega⟩, hb⟩
theorem toFactS_p (A : Option Addr) (c : Nat) (fs : FL) (hz : szF fs ≤ 1048576) (w : World) (h : RF w A fs) :
    Calls Tryz.prog 10 #[.slice A fs.length c] w fun e w' => e = .returned (.slice (some ⟨w.heap.size, 0, none⟩) fs.length fs.length) ∧ PX w' w.heap.size w'.heap.size w.heap.size (fs.length * 2) fs ∧ Below w.heap.size w w' ∧ w.heap.size < w'.heap.size :=
  (toFactS_any A c fs hz w h).mono fun _ _ ⟨a, b, c, d⟩ => ⟨a, ⟨b, Nat.le_refl _, Nat.le_refl _⟩, c, d⟩

theorem eqFact_b (r : Int) (xs : List Int) (A A' : Option Addr) (c c' : Nat) (hl : xs.length ≤ 2097152) (w : World) (h : RI w A xs) (h' : RI w A' xs) :
    Calls Tryz.prog 39 #[.agg #[.int .i64 r, .slice A xs.length c], .agg #[.int .i64 r, .slice A' xs.length c']] w fun e w' => e = .returned (.bool true) ∧ Below w.heap.size w w' := by
  have := eqFact_any _ _ _ _ r r xs xs A A' c c' (by omega) (by omega) w (Nat.le_refl _) (Nat.le_refl _) h h'
  rwa [decide_eq_true rfl, decide_eq_true rfl] at this
theorem szF_elem_b {l : FL} (h : szF l ≤ 1048577) {k : Nat} (hk : k < l.length) : (l.getD k (0, [])).2.length ≤ 2097152 := by
  have h1 := sumN_take l k hk
  have h2 := sumN_le l (k + 1)
  unfold szF at h
  omega
set_option maxRecDepth 100000 in
set_option maxHeartbeats 1000000 in
theorem eqFactS_b (A A' : Option Addr) (c c' : Nat) (fs : FL) (hz : szF fs ≤ 1048577) (w : World) (h : RF w A fs) (h' : RF w A' fs) :
    Calls Tryz.prog 15 #[.slice A fs.length c, .slice A' fs.length c'] w fun e w' => e = .returned (.bool true) ∧ Below w.heap.size w w' := by
  have hl : fs.length ≤ 1048577 := by unfold szF at hz; omega
  have hl' : (fs.length : Int) ≤ 1048577 := by omega
  have HI := Lib.hid h
  have HJ := Lib.hid h'
  clear h h'
  go_enter Tryz.func15, Tryz.ntmps15
  go_wp2
  go_loopw [5] (fun i wr => ∃ k : Nat, k ≤ fs.length ∧ i = .int .i64 k ∧ Below w.heap.size w wr) (fun i _ => fs.length - (intOf i).toNat)
  case atStart => exact ⟨0, by omega, rfl, Below.refl _ _⟩
  case round =>
    obtain ⟨k, hk, rfl, hb⟩ := hrel
    by_cases hlt : k < fs.length
    · generalize hf : fs.getD k (0, []) = f
      obtain ⟨r, xs⟩ := f
      have hxl : xs.length ≤ 2097152 := by have := szF_elem_b hz hlt; rw [hf] at this; exact this
      obtain ⟨b, off, B, c2, rfl, n1, e0, e1, _, _, hI⟩ := (HI.out.step hb).at_ hlt hf
      obtain ⟨b', off', B', c2', rfl, n2, e0', e1', _, _, hI'⟩ := (HJ.out.step hb).at_ hlt hf
      have k0 := cell_regrown e0
      have k1 := cell_regrown e1
      have k2 := cell_regrown e0'
      have k3 := cell_regrown e1'
      have HX := Lib.hid hI
      have HX' := Lib.hid hI'
      clear hf hI hI' e0 e1 e0' e1'
      have hk0 : (0 : Int) ≤ (k : Int) := by omega
      have hk1 : (k : Int) < (fs.length : Int) := by omega
      have X1 := Lib.hid fun (W : World) (hW : Below wr.heap.size wr W) => eqFact_b r xs B B' c2 c2' hxl W (HX.out.step hW) (HX'.out.step hW)
      go_wp2
      refine wp_region_quiet_below (by kernel_rfl) (by kernel_rfl) ?_
      repeat (go_big_quiet_step (first | (go_at_call 39; with_reducible exact Calls.regrown_of (X1.out _ (below_regrown _ _ _)))))
      refine wpQuiet_nil ?_
      intro u hw'
      have hb2 : Below w.heap.size w u := by obtain ⟨⟨dq, osq⟩, rfl⟩ := hw'; exact step hb (below_regrown _ _ _)
      clear hw' k0 k1 k2 k3
      go_wp2
      go_roundw
      case rel => exact ⟨k + 1, by omega, by go_num, hb2⟩
      case measure => simp [intOf]; omega
    · obtain rfl : k = fs.length := by omega
      go_wp2
      go_ret
      exact ⟨rfl, hb⟩
end Go.Proofs.YtighalbnpgmdfaaGreat
