/- Numbers that came in are such as an int holds. Conditions: none beyond each theorem's own. -/
import Derived.Test.YtimlpdcambmcjaaDoorOpen
namespace Go.Proofs.YtimlpdcambmcjaaDoor
open Go.ChangeShapes Go.WideShapes Go.ChangeAt Go.RowKit
set_option linter.unusedVariables false
set_option linter.unusedSimpArgs false

section
variable {H : Type} {enc : TypeId × Value → H} {P : Program} {w : World}
theorem open_numsW {t e : TypeId} {fuel : Nat} {v : Value} {x : DataW H × List MemPlace} (ht : P.underlying t = some (.slice e)) (he : P.underlying e = some (.int .i64)) (hc : P.cellsOf e = 1)
    (h : DataW.trod enc P w 0 (fun _ => true) true fuel t [v] = some x) : ∃ (A : Option Addr) (c : Nat) (xs : List Int), v = .slice A xs.length c ∧ xs.length ≤ c ∧ c ≤ maxLen ∧ Ints w 0 w.heap.size A xs ∧ ∀ n ∈ xs, (Lit.int .i64 n).wf = true := by
  rcases open_ints ht he hc h with ⟨hv, _⟩ | ⟨a, len, cap, zs, hv, _, hl, hm, hz, _, hcell, hwf⟩
  · injection hv with hv
    exact ⟨none, 0, [], hv, Nat.le_refl _, by unfold maxLen; omega, fun h => absurd rfl h, fun n hn => by simp at hn⟩
  · injection hv with hv
    have hlen : (zs.take len).length = len := by rw [List.length_take]; simp at hz; omega
    refine ⟨some a, cap, zs.take len, by rw [hlen]; exact hv, by rw [hlen]; exact hl, hm, fun hne => ?_, fun n hn => hwf n (List.mem_of_mem_take hn)⟩
    have hpos : 0 < len := by
      rcases Nat.eq_zero_or_pos len with h0 | h0
      · subst h0; simp at hne
      · exact h0
    simp only [if_true] at hz
    obtain ⟨b, off, spot⟩ := a
    have hc0 := hcell 0 (by omega)
    have hspot : spot = none := by simpa [Addr.add] using World.cell?_spot hc0
    subst hspot
    have hb := World.block_lt_of_cell? w _ hc0
    refine ⟨b, off, rfl, by omega, by simpa [Addr.add] using hb, fun k hk => ?_⟩
    have hk' : k < len := by rw [hlen] at hk; exact hk
    have := hcell k (by omega)
    have e : (⟨b, off, none⟩ : Addr).add k = ⟨b, off + k, none⟩ := by unfold Addr.add; split <;> simp_all
    rw [e] at this
    rw [this]
    simp [List.getD_eq_getElem?_getD, List.getElem?_take, hk']
end
theorem range_of {hs : List Int} (h : ∀ n ∈ hs, (Lit.int .i64 n).wf = true) : allB (-9223372036854775808) 9223372036854775807 hs = true := by
  unfold allB
  rw [List.all_eq_true]
  intro x hx
  have h1 : -9223372036854775808 ≤ x ∧ x ≤ 9223372036854775807 := by simpa [Lit.wf, IntKind.min, IntKind.max, IntKind.signed, IntKind.bits] using h x hx
  simp [inB, h1.1, h1.2]
end Go.Proofs.YtimlpdcambmcjaaDoor
