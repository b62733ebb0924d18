/- Rows of one-cell elements that grow by append, and texts in memory. Conditions: none beyond each theorem's own. -/
import Derived.Test.YtafibomclpeheaaDoorAddL
import Derived.Test.YtafibomclpeheaaDoorShelf
import Derived.Lib.SplitLaws
import Derived.Lib.CutLaws
import Derived.Lib.IndexBytes
namespace Go.Proofs.YtafibomclpeheaaDoor
open Go.ChangeShapes Go.WideShapes Go.ChangeAt Go.RowKit Go.Sort
set_option linter.unusedVariables false
set_option linter.unusedSimpArgs false

/-- append(v, y) of one element, in a new block. -/
theorem wpList_push {P : Program} {W w0 : World} {ops : Array Oper} {rest : List Oper} {o : Oper} {a : Act} {Q : Exit → Act → World → Prop} (hgd : o.guard = none) (s x : Operand) (t e : TypeId)
    (ho : o.op = .call { callee := .builtin .append, args := #[s, x], argTypes := #[t, t] })
    (i : TypeInfo) (ht : P.underlying t = some (.slice e)) (hi : P.info? e = some i) (z : Value) (bytes : Nat) (hz : i.zero = some z) (hz1 : i.size = 1) (hz2 : i.bytes = bytes) (hzs : z.cells.size = 1) (hby : bytes ≤ 32)
    {base n : Nat} {v : Value} {cs : List Value} {y : Value} (hs : a.eval s = v) (hx : a.eval x = .slice (some ⟨W.heap.size, 0, none⟩) 1 1) (hy : y.oneCell' = true)
    (hown : W.ownsRow base e 1 v n cs) (hb : Below base w0 W) (hbase : base ≤ W.heap.size) (hn : n + 1 ≤ 1048580)
    (h : ∀ v' w', w'.ownsRow base e 1 v' (n + 1) (cs ++ [y]) → Below base w0 w' → w'.heap.size > base → wpList P ops Q rest (a.put o.dst v') w') :
    wpList P ops Q (o :: rest) a (W.alloc (.cells #[y] e)) := by
  refine wpList_append_own (P := P) _ hgd s x t ho base e i z 1 bytes ht hi hz hz1 hz2 hzs (by omega) v n _ hs (hown.alloc _) ⟨W.heap.size, 0, none⟩ 1 1 [y] hx rfl (cell_one_new _ _ _) (by intro u hu; simp at hu; subst hu; exact hy)
    (by unfold maxLen; omega) (by have : (n + 1) * bytes ≤ 1048580 * 32 := Nat.mul_le_mul hn hby; omega) (by simp; omega) ?_
  intro v' w' hown' hg _
  refine h v' w' hown' ((hb.alloc hbase _).grown hg (by simp; omega) fun k hk => ?_) (by have := hg.size; simp at this; omega)
  exact (hown.lt k hk).1

theorem ownsRow_form {w : World} {base : Nat} {e : TypeId} {size : Nat} {v : Value} {n : Nat} {cs : List Value} (h : w.ownsRow base e size v n cs) : ∃ A c, v = .slice A n c := by
  rcases h.2 with ⟨rfl, h0⟩ | ⟨g, cap, _, rfl, _⟩
  · exact ⟨none, 0, by rw [h0]⟩
  · exact ⟨_, _, rfl⟩
theorem ownsRow_step {w w' : World} {base : Nat} {e : TypeId} {size : Nat} {v : Value} {n : Nat} {cs : List Value} (h : w.ownsRow base e size v n cs) (d : Below w.heap.size w w') : w'.ownsRow base e size v n cs :=
  h.kept (own_none d) (by rcases hv : v.ownBlock with _ | g <;> simp)

/-- The words between the commas. -/
def wordsI (s : ByteArray) : List ByteArray := Lib.splitB ⟨#[44]⟩ 0 (Lib.countB s ⟨#[44]⟩) s
theorem words_len (s : ByteArray) : (wordsI s).length = Lib.countB s ⟨#[44]⟩ + 1 := Lib.splitB_all _ (by decide) 0 _ _ rfl
theorem words_le (s : ByteArray) : (wordsI s).length ≤ s.size + 1 := by
  rw [words_len]
  have := Lib.countB_le ⟨#[44]⟩ (by decide) s.size s (Nat.le_refl _)
  omega
theorem splitB_mem (sep : ByteArray) : ∀ (k : Nat) (s x : ByteArray), x ∈ Lib.splitB sep 0 k s → x.size ≤ s.size
  | 0, s, x, h => by
    rw [Lib.splitB_zero] at h
    simp at h
    subst h
    exact Nat.le_refl _
  | k + 1, s, x, h => by
    unfold Lib.splitB at h
    split at h
    · simp at h
      subst h
      exact Nat.le_refl _
    · rcases List.mem_cons.1 h with h | h
      · subst h
        rw [ByteArray.size_extract]; omega
      · have := splitB_mem sep k _ x h
        rw [ByteArray.size_extract] at this
        omega
theorem words_size {s x : ByteArray} (h : x ∈ wordsI s) : x.size ≤ s.size := splitB_mem _ _ _ _ h

/-- Texts at an address. -/
def RS (w : World) (g : Nat) (ws : List ByteArray) : Prop := w.heap[g]? = some (.cells (ws.map Value.string).toArray 9 (0, 0))
theorem RS.cell {w : World} {g : Nat} {ws : List ByteArray} (h : RS w g ws) {k : Nat} (hk : k < ws.length) : w.cell? ⟨g, k, none⟩ = some (.string (ws.getD k ⟨#[]⟩)) := by
  rw [cell_of_row w g k _ _ (0, 0) h]
  simp [List.getD_eq_getElem?_getD, hk]
end Go.Proofs.YtafibomclpeheaaDoor
