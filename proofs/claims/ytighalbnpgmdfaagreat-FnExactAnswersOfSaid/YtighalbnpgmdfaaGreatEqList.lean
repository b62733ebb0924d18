/- Two lists of the same facts are found equal by the law's own comparison. Conditions: none beyond each theorem's own. -/
import Derived.Test.YtighalbnpgmdfaaGreatOwn
namespace Go.Proofs.YtighalbnpgmdfaaGreat
open Go.ChangeShapes Go.WideShapes Go.ChangeAt Go.RowKit
set_option linter.unusedVariables false
set_option linter.unusedSimpArgs false

theorem OwnP.rf {w : World} {lo g m : Nat} {fs : FL} (h : OwnP w lo w.heap.size g m fs.length fs) (hm : fs.length * 2 ≤ m) : RF w (some ⟨g, 0, none⟩) fs := (h.facts hm).mono (Nat.zero_le _) (Nat.le_refl _)
theorem toFactS_r (A : Option Addr) (c : Nat) (fs : FL) (hz : szF fs ≤ 1048576) (w : World) (h : RF w A fs) :
    Calls Tryz.prog 10 #[.slice A fs.length c] w fun e w' => e = .returned (.slice (some ⟨w.heap.size, 0, none⟩) fs.length fs.length) ∧ RF w' (some ⟨w.heap.size, 0, none⟩) fs ∧ Below w.heap.size w w' ∧ w.heap.size < w'.heap.size :=
  (toFactS_any A c fs hz w h).mono fun _ _ ⟨a, b, c, d⟩ => ⟨a, b.rf (Nat.le_refl _), c, d⟩

set_option maxRecDepth 100000 in
set_option maxHeartbeats 1000000 in
theorem eqFactS_r (A A' : Option Addr) (c c' : Nat) (fs : FL) (hz : szF fs ≤ 1048576) (w : World) (h : RF w A fs) (h' : RF w A' fs) :
    Calls Tryz.prog 15 #[.slice A fs.length c, .slice A' fs.length c'] w fun e w' => e = .returned (.bool true) ∧ Below w.heap.size w w' := by
  have hl := szF_len hz
  have hl' : (fs.length : Int) ≤ 1048576 := by omega
  have HI := Lib.hid h
  have HJ := Lib.hid h'
  clear h h'
  go_enter Tryz.func15, Tryz.ntmps15
  go_wp2
  go_loopw [5] (fun i wr => ∃ k : Nat, k ≤ fs.length ∧ i = .int .i64 k ∧ Below w.heap.size w wr) (fun i _ => fs.length - (intOf i).toNat)
  case atStart => exact ⟨0, by omega, rfl, Below.refl _ _⟩
  case round =>
    obtain ⟨k, hk, rfl, hb⟩ := hrel
    by_cases hlt : k < fs.length
    · generalize hf : fs.getD k (0, []) = f
      obtain ⟨r, xs⟩ := f
      have hxl : xs.length ≤ 1048576 := by have := szF_elem hz hlt; rw [hf] at this; exact this
      obtain ⟨b, off, B, c2, rfl, n1, e0, e1, _, _, hI⟩ := (HI.out.step hb).at_ hlt hf
      obtain ⟨b', off', B', c2', rfl, n2, e0', e1', _, _, hI'⟩ := (HJ.out.step hb).at_ hlt hf
      have HX := Lib.hid hI
      have HX' := Lib.hid hI'
      clear hf hI hI'
      have hk0 : (0 : Int) ≤ (k : Int) := by omega
      have hk1 : (k : Int) < (fs.length : Int) := by omega
      go_wp2
      go_region_held3 (fun w' => w'.cell? ⟨b, off + k * 2, none⟩ = some (.int .i64 r) ∧ w'.cell? ⟨b, off + k * 2 + 1, none⟩ = some (.slice B xs.length c2) ∧ w'.cell? ⟨b', off' + k * 2, none⟩ = some (.int .i64 r) ∧ w'.cell? ⟨b', off' + k * 2 + 1, none⟩ = some (.slice B' xs.length c2'))
        (first
          | go_keep
          | (go_split_ands; refine ⟨?_, ?_, ?_, ?_⟩ <;> (rw [d.cell (by (try simp) <;> omega)]; assumption)))
        (first
          | (go_at_call 39; refine (eqFact_r r xs B B' c2 c2' hxl _ (by first | exact HX.out | exact HX.out.step (below_drew _)) (by first | exact HX'.out | exact HX'.out.step (below_drew _))).mono ?_; rintro e u ⟨rfl, d⟩))
      have hb2 : Below w.heap.size w u := by first | exact step hb d | exact step hb (und d)
      clear d
      go_wp2
      go_roundw
      case rel => exact ⟨k + 1, by omega, by go_num, by first | exact hb2 | exact hb2.drew⟩
      case measure => simp [intOf]; omega
    · obtain rfl : k = fs.length := by omega
      go_wp2
      go_ret
      exact ⟨rfl, hb⟩
end Go.Proofs.YtighalbnpgmdfaaGreat
