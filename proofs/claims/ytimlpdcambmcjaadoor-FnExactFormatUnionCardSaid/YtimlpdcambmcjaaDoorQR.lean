/- A query that came in, its numbers such as an int holds. Conditions: none beyond each theorem's own. -/
import Derived.Test.YtimlpdcambmcjaaDoorQry
import Derived.Test.YtimlpdcambmcjaaDoorNumW
namespace Go.Proofs.YtimlpdcambmcjaaDoor
open Go.ChangeShapes Go.WideShapes Go.ChangeAt Go.RowKit Go.Sort
open Go.Proofs.YtimlpdcambmcjaaDoor.atom
set_option linter.unusedVariables false
set_option linter.unusedSimpArgs false

section
variable {H : Type} {enc : TypeId × Value → H} {w : World}
set_option maxRecDepth 100000 in
theorem open_queryR {r : Reach} {base : Nat} {v : Value} {d : DataW H} {p : List MemPlace} (hv : Value.okWide Tryd.prog w r base 33 v) (h : DataW.Trod enc Tryd.prog w 0 (fun _ => true) true 33 v d p) :
    ∃ (H A : Option Addr) (ch c : Nat) (hs : List Int) (l : FL), v = .agg #[.slice H hs.length ch, .slice A l.length c] ∧ hs.length ≤ ch ∧ ch ≤ maxLen ∧ l.length ≤ c ∧ c ≤ maxLen ∧ (Ints w 0 w.heap.size H hs ∧ Facts w 0 w.heap.size A l) ∧ ∀ n ∈ hs, (Lit.int .i64 n).wf = true := by
  obtain ⟨v0, v1, y0, y1, n, rfl, _, _, h0, h1⟩ := Go.Joins.open_agg2 Tryd.underlying33 (by kernel_rfl) (by kernel_rfl) hv h
  obtain ⟨A, c, xs, hv1, hl, hm, hi, hw⟩ := open_numsW (v := v0) Tryd.underlying30 Tryd.underlying3 (by kernel_rfl) h0
  subst hv1
  obtain ⟨B, c2, l, rfl, hl2, hm2, hf⟩ := atom.open_atoms_at (v := v1) h1
  exact ⟨A, B, c, c2, xs, l, rfl, hl, hm, hl2, hm2, ⟨hi, hf⟩, hw⟩
end
end Go.Proofs.YtimlpdcambmcjaaDoor
