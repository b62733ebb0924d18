/- What the two functions FormatFact answer. Conditions: none beyond each theorem's own. -/
import Derived.Test.YtimlpdcambmcjaaDoorFmtF
namespace Go.Proofs.YtimlpdcambmcjaaDoor
open Go.ChangeShapes Go.WideShapes Go.ChangeAt Go.RowKit Go.Sort
set_option linter.unusedVariables false
set_option linter.unusedSimpArgs false

theorem fmt_cat (p : UInt8) (r : Int) (L : List UInt8) : (⟨#[p]⟩ : ByteArray) ++ ⟨#[dg r]⟩ ++ ⟨#[40]⟩ ++ ⟨L.toArray⟩ ++ ⟨#[41]⟩ = ⟨([p, dg r, 40] ++ L ++ [41]).toArray⟩ := by
  rw [show (⟨#[p]⟩ : ByteArray) = ⟨[p].toArray⟩ from rfl, show (⟨#[dg r]⟩ : ByteArray) = ⟨[dg r].toArray⟩ from rfl, show (⟨#[40]⟩ : ByteArray) = ⟨[40].toArray⟩ from rfl, show (⟨#[41]⟩ : ByteArray) = ⟨[41].toArray⟩ from rfl, ba_append, ba_append, ba_append, ba_append]
  simp

set_option maxRecDepth 100000 in
set_option maxHeartbeats 1000000 in
theorem formatParts_int (p : UInt8) (r : Int) (xs : List Int) (A : Option Addr) (c : Nat) (h0 : 0 ≤ r) (h9 : r ≤ 9) (hl : xs.length ≤ 3) (hd : allB 0 9 xs = true) (w : World) (h : RI w A xs) (ht : Tab w) :
    Calls Tryd.prog 53 #[.string ⟨#[p]⟩, .int .i64 r, .slice A xs.length c, .func (.func 56) #[] #[]] w fun e w' => e = .returned (.string ⟨([p, dg r, 40] ++ commaL xs ++ [41]).toArray⟩) ∧ Below w.heap.size w w' := by
  have FD := Lib.hid (fmt_digit h0 h9)
  have HI := Lib.hid h
  have HT := Lib.hid (Lib.tabBelow_of_tabIs ht)
  have XL := Lib.hid fun (W : World) (hW : Below w.heap.size w W) => formatList_int A c xs hl hd W (HI.out.step hW) (HT.out _ hW)
  have hsz := commaL_len xs
  have hsz2 : (commaL xs).length ≤ 9 := by omega
  have FC := Lib.hid (fmt_cat p r (commaL xs))
  generalize commaL xs = L at hsz2 XL FC ⊢
  clear hsz h ht hd
  go_enter Tryd.func53, Tryd.ntmps53
  go_wp2_with fail
  refine (impl_FormatInt r (by omega) (by omega) _ (HT.out _ (Below.refl _ _))).mono ?_
  rintro e w1 ⟨he, d⟩
  rw [FD.out] at he
  subst he
  have D1 := Lib.hid d
  clear d
  go_wp2_with fail
  refine (XL.out _ D1.out).mono ?_
  rintro e w2 ⟨rfl, d⟩
  have D2 := Lib.hid (step D1.out d)
  clear d
  go_wp2
  go_ret
  exact ⟨ret_str FC.out, D2.out⟩

/-- The table of powers of ten holds, and will while no old memory turns. -/
def TabB (w : World) : Prop := ∀ w', Below w.heap.size w w' → Tab w'
theorem TabB.of {w : World} (h : Tab w) : TabB w := Lib.tabBelow_of_tabIs h
theorem TabB.step {w w' : World} (h : TabB w) (b : Below w.heap.size w w') : TabB w' := fun w2 b2 => h w2 (Go.Proofs.YtimlpdcambmcjaaDoor.step b b2)
end Go.Proofs.YtimlpdcambmcjaaDoor
