/- slices.Insert of one element into a row without room. Conditions: none beyond each theorem's own. -/
import Derived.Test.YtenondgjipmhnaaOnceT
import Derived.Laws.IdiomCopy
import Derived.Lib.AppendZerosOnto
import Derived.Lib.LazyBuf
import Derived.Lib.AppendStr
import Derived.Shelf.Spec.SlicesInsert
import Derived.Laws.NewBlocks
namespace Go.Proofs.Ytenondgjipmhnaa
open Go.ChangeShapes Go.WideShapes Go.ChangeAt Go.RowKit Go.Sort Go.Lib
set_option linter.unusedVariables false
set_option linter.unusedSimpArgs false

/-- copy at elements of K cells. -/
theorem run_copyK {P : Program} (K : Nat) (w : World) (dT sT ty elem : TypeId) (b o dLen dCap : Nat) (a : Addr) (sLen sCap : Nat) (cs : List Value)
    (hu : P.underlying dT = some (.slice elem)) (hs : (P.info? elem).map (·.size) = some K) (hn : cs.length = Nat.min sLen dLen * K)
    (hsrc : ∀ j v, cs[j]? = some v → w.cell? (a.add j) = some v) (hc : ∀ j, j < cs.length → (w.cell? ⟨b, o + j, none⟩).isSome = true) (hf : ∀ j, j < cs.length → w.frozen? ⟨b, o + j, none⟩ = false) (h1 : ∀ v ∈ cs, v.oneCell' = true) :
    (Builtin.copy_ #[dT, sT] ty #[.slice (some ⟨b, o, none⟩) dLen dCap, .slice (some a) sLen sCap]).run P w = .ok (goInt (Nat.min sLen dLen)) (w.setCells b o cs) := by
  have hl := run_loadCells_list (P := P) w a cs hsrc
  have hst := run_storeCells_cells (P := P) b o cs 0 w (by simpa using hc) (by simpa using hf) h1
  cases hq : P.info? elem with
  | none => simp [hq] at hs
  | some i =>
    have hi : i.size = K := by simpa [hq] using hs
    simp [Builtin.copy_, run_underlying hu, Builtin.lenOf, Builtin.firstCells, sizeOf, typeInfo, hq, hi, ← hn, hl, hst]

/-- A new row that holds cs. -/
def InsOut (w : World) (e : TypeId) (K n : Nat) (cs : List Value) (x : Ending) (w' : World) : Prop :=
  ∃ G, x = .returned (.slice (some ⟨w.heap.size, 0, none⟩) n G) ∧ w'.ownsRow w.heap.size e K (.slice (some ⟨w.heap.size, 0, none⟩) n G) n cs ∧ Below w.heap.size w w'

/-- The row behind the two copies. -/
theorem ins_row {W : World} {g : Nat} {e : TypeId} {K n i G : Nat} {ROW : Array Value} {cs vs : List Value} (hi : i < n) (hcl : cs.length = n * K) (hvl : vs.length = K) (hR : W.heap[g]? = some (.cells ROW e (0, 0))) (hRs : ROW.size = G * K) (hG : n + 1 ≤ G) (hGm : G ≤ maxLen)
    (hR0 : ∀ (j : Nat) (v : Value), (cs.take (i * K))[j]? = some v → ROW[j]? = some v) (base : Nat) (hb : base ≤ g) :
    ((W.setCells g (i * K) vs).setCells g ((i + 1) * K) (cs.drop (i * K))).ownsRow base e K (.slice (some ⟨g, 0, none⟩) (n + 1) G) (n + 1) (cs.take (i * K) ++ vs ++ cs.drop (i * K)) := by
  have hiK : i * K + K ≤ n * K := by rw [← Nat.succ_mul]; exact Nat.mul_le_mul_right K hi
  have hi1 : (i + 1) * K = i * K + K := Nat.succ_mul i K
  have hn1 : (n + 1) * K = n * K + K := Nat.succ_mul n K
  have hGK : (n + 1) * K ≤ G * K := Nat.mul_le_mul_right K hG
  have h0 : W.rowIs g e (G * K) (fun j => ROW[j]?.getD undef) := ⟨ROW, hR, hRs, fun j hj => by simp [show j < ROW.size by omega]⟩
  have h2 := Go.rowIs_setCells (cs.drop (i * K)) ((i + 1) * K) _ _ (Go.rowIs_setCells vs (i * K) _ _ h0)
  obtain ⟨C, hC, hCs, hCf⟩ := h2
  have hlen : (cs.take (i * K) ++ vs ++ cs.drop (i * K)).length = (n + 1) * K := by
    simp only [List.length_append, List.length_take, List.length_drop]; omega
  refine ⟨hlen, .inr ⟨g, G, C, rfl, hb, hC, hG, hGm, hCs, ?_⟩⟩
  apply List.ext_getElem?
  intro j
  by_cases hj : j < (n + 1) * K
  · rw [List.getElem?_take_of_lt hj, Array.getElem?_toList, hCf j (by omega)]
    by_cases h3 : (i + 1) * K ≤ j
    · have hlt : j < (i + 1) * K + (cs.drop (i * K)).length := by rw [List.length_drop]; omega
      simp only [if_pos (And.intro h3 hlt)]
      rw [List.getElem?_append_right (by simp only [List.length_append, List.length_take]; omega)]
      have e1 : j - (cs.take (i * K) ++ vs).length = j - (i + 1) * K := by simp only [List.length_append, List.length_take]; omega
      rw [e1]
      have hl : j - (i + 1) * K < (cs.drop (i * K)).length := by omega
      rw [List.getElem?_eq_getElem hl]
      rfl
    · simp only [if_neg (show ¬ ((i + 1) * K ≤ j ∧ j < (i + 1) * K + (cs.drop (i * K)).length) from fun h => h3 h.1)]
      rw [List.getElem?_append_left (by simp only [List.length_append, List.length_take]; omega)]
      by_cases h4 : i * K ≤ j
      · have hlt : j < i * K + vs.length := by omega
        simp only [if_pos (And.intro h4 hlt)]
        rw [List.getElem?_append_right (by simp only [List.length_take]; omega)]
        have e1 : j - (cs.take (i * K)).length = j - i * K := by simp only [List.length_take]; omega
        rw [e1]
        have hl : j - i * K < vs.length := by omega
        rw [List.getElem?_eq_getElem hl]
        rfl
      · simp only [if_neg (show ¬ (i * K ≤ j ∧ j < i * K + vs.length) from fun h => h4 h.1)]
        rw [List.getElem?_append_left (by simp only [List.length_take]; omega)]
        have hl : j < (cs.take (i * K)).length := by simp only [List.length_take]; omega
        have := hR0 j _ (List.getElem?_eq_getElem hl)
        rw [List.getElem?_eq_getElem hl, this]
        rfl
  · rw [List.getElem?_eq_none (by simp only [List.length_take, Array.length_toList]; omega), List.getElem?_eq_none (by omega)]
/-- The row behind an append at the end. -/
theorem end_row {W : World} {e : TypeId} {K n G : Nat} {Z cs vs : List Value} (hcl : cs.length = n * K) (hvl : vs.length = K) (hZ : Z.length = (G - (n + 1)) * K) (hG : n + 1 ≤ G) (hGm : G ≤ maxLen) (ROW : Array Value) (hR : ROW.toList = (cs ++ vs) ++ Z) :
    (W.alloc (.cells ROW e)).ownsRow W.heap.size e K (.slice (some ⟨W.heap.size, 0, none⟩) (n + 1) G) (n + 1) (cs ++ vs) := by
  have hn1 : (n + 1) * K = n * K + K := Nat.succ_mul n K
  have hl : (cs ++ vs).length = (n + 1) * K := by rw [List.length_append]; omega
  refine ⟨hl, .inr ⟨_, G, ROW, rfl, Nat.le_refl _, heap_alloc_new W _, hG, hGm, ?_, ?_⟩⟩
  · rw [← Array.length_toList, hR, List.length_append, hl, hZ, ← Nat.add_mul]
    congr 1; omega
  · rw [hR, List.take_append_of_le_length (by omega), List.take_of_length_le (by omega)]
end Go.Proofs.Ytenondgjipmhnaa

