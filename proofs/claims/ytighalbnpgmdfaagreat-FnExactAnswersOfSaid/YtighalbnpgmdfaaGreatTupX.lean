/- What the laws on lists of lists carry from call to call. Conditions: none beyond each theorem's own. -/
import Derived.Test.YtighalbnpgmdfaaGreatTupO
import Derived.Test.YtighalbnpgmdfaaGreatMark2
namespace Go.Proofs.YtighalbnpgmdfaaGreat
open Go.ChangeShapes Go.WideShapes Go.ChangeAt Go.RowKit Go.Sort
set_option linter.unusedVariables false
set_option linter.unusedSimpArgs false

theorem OwnT.keep {w w' : World} {lo hi g m k : Nat} {ts : TL} (h : OwnT w lo hi g m k ts) (hk : ∀ b, lo ≤ b → b < hi → w'.heap[b]? = w.heap[b]?) : OwnT w' lo hi g m k ts := by
  obtain ⟨h1, h2, F, bs, hr, he, hd⟩ := h
  exact ⟨h1, h2, F, bs, World.rowIs.of_block hr (hk g h1 h2), fun j hj => (he j hj).keep fun a b _ => hk _ a b, hd⟩
/-- A list of the call's own that lies below block hi, whatever is made later. -/
def TX (w : World) (lo hi g m : Nat) (ts : TL) : Prop := OwnT w lo hi g m ts.length ts ∧ hi ≤ w.heap.size ∧ ts.length ≤ m
theorem TX.step {w w' : World} {lo hi g m : Nat} {ts : TL} (h : TX w lo hi g m ts) (b : Below w.heap.size w w') : TX w' lo hi g m ts :=
  ⟨h.1.keep fun q _ hq => b.block q (by have := h.2.1; omega), Nat.le_trans h.2.1 b.size, h.2.2⟩
theorem TX.keep {w w' : World} {lo hi g m : Nat} {ts : TL} (h : TX w lo hi g m ts) (hk : ∀ b, lo ≤ b → b < hi → w'.heap[b]? = w.heap[b]?) (hs : w.heap.size ≤ w'.heap.size) : TX w' lo hi g m ts :=
  ⟨h.1.keep hk, Nat.le_trans h.2.1 hs, h.2.2⟩
theorem TX.rt {w : World} {lo hi g m : Nat} {ts : TL} (h : TX w lo hi g m ts) : RT w (some ⟨g, 0, none⟩) ts := (h.1.tups h.2.2).mono (Nat.zero_le _) h.2.1
/-- What AddTuple returns, as its block. -/
def AddX (w : World) (res : TL) (e : Ending) (w' : World) : Prop :=
  ∃ g cap, e = .returned (.slice (some ⟨g, 0, none⟩) res.length cap) ∧ TX w' w.heap.size w'.heap.size g cap res ∧ Below w.heap.size w w'
theorem addT_pos (l : TL) (t : List Int) : 0 < (addT l t).length := by
  unfold addT
  split
  · rename_i h
    exact List.length_pos_of_mem h
  · obtain ⟨k, hk, e⟩ := addTI_form l t
    rw [e, ins_len _ _ _ hk]
    omega
theorem AddOutT.toX {w : World} {l : TL} {t : List Int} {e : Ending} {w' : World} (h : AddOutT w (addT l t) e w') : AddX w (addT l t) e w' := by
  obtain ⟨A, c, cs, bs, he, ho, hb⟩ := h
  rcases ho.addr with ⟨_, hn⟩ | ⟨g, rfl⟩
  · have := addT_pos l t
    rw [hn] at this
    simp at this
  · obtain ⟨_, hc, hp⟩ := ho.to_P
    exact ⟨g, c, he, ⟨hp, Nat.le_refl _, hc⟩, hb⟩
theorem addT_elem {l : TL} {t : List Int} (hz : szT l ≤ 1048576) (ht : t.length ≤ 1048576) : ∀ k, k < (addT l t).length → ((addT l t).getD k []).length ≤ 1048576 := fun k hk => by
  rcases addT_mem (getD_memT hk) with h | h
  · obtain ⟨j, hj, e⟩ := List.getElem_of_mem h
    have := szT_elem hz hj
    rw [List.getD_eq_getElem?_getD, List.getElem?_eq_getElem hj] at this
    rw [← e]; exact this
  · rw [h]; exact ht
theorem szT_all {l : TL} (hz : szT l ≤ 1048576) : ∀ k, k < l.length → (l.getD k []).length ≤ 1048576 := fun k hk => szT_elem hz hk
theorem markIntSS_x (lo hi g m c : Nat) (q : Int) (ts : TL) (hl : ts.length ≤ 1048577) (hz : sumT ts ≤ 2097152) (he : ∀ k, k < ts.length → (ts.getD k []).length ≤ 1048576) (h0 : 0 ≤ q) (h1 : q ≤ 1048577) (w : World) (h : TX w lo hi g m ts) :
    Calls Tryz.prog 19 #[.slice (some ⟨g, 0, none⟩) ts.length c, .int .i64 q] w fun e w' => e = .returned (.int .i64 (q + sumT ts)) ∧ RT w' (some ⟨g, 0, none⟩) (mkT q ts ts.length) ∧ Within lo hi w w' :=
  (markIntSS_any lo hi g m c q ts hl hz he h0 h1 h.2.2 w h.1).mono fun e w' ⟨a, b, c⟩ => ⟨a, (OwnT.tups (ts := mkT q ts ts.length) (by rw [mkT_length]; exact b) (by rw [mkT_length]; exact h.2.2)).mono (Nat.zero_le _) (by rw [c.size]; exact h.2.1), c⟩
theorem markIntS_x (g c : Nat) (q : Int) (xs : List Int) (hl : xs.length ≤ 1048576) (h0 : 0 ≤ q) (h1 : q ≤ 4194304) (w : World) (h : Row w g xs) :
    Calls Tryz.prog 16 #[.slice (some ⟨g, 0, none⟩) xs.length c, .int .i64 q] w fun e w' => e = .returned (.int .i64 (q + xs.length)) ∧ Within g (g + 1) w w' :=
  (markIntS_any _ g c xs.length xs.length q w hl h0 (by omega) (fun i => .int .i64 (xs.getD i 0)) (fun _ => rfl) (Nat.le_refl _) (fun _ => h)).mono fun e w' ⟨a, b, _⟩ => ⟨a, b⟩
end Go.Proofs.YtighalbnpgmdfaaGreat
