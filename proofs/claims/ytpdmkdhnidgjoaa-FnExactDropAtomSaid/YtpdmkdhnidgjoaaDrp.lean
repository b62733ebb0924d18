/- The model's copies of atoms and queries, and its DropAtom. Conditions: none beyond each theorem's own. -/
import Derived.Test.YtpdmkdhnidgjoaaCpQ
import Derived.Deep.AppendLies
import Derived.Deep.RegionHeld3
namespace Go.Proofs.Ytpdmkdhnidgjoaa
open Go.ChangeShapes Go.WideShapes Go.ChangeAt Go.RowKit Go.Sort
set_option linter.unusedVariables false
set_option linter.unusedSimpArgs false

theorem ownC_nilD (w : World) (lo hi : Nat) : atom.OwnC w lo hi (.slice none ([] : FL).length 0) [] [] (fun _ => 0) := ⟨⟨by simp, .inl ⟨rfl, rfl⟩⟩, Items.nil _ _ _⟩
theorem ownC_setD {w : World} {lo hi : Nat} {v u : Value} {fs : FL} {cs : List Value} {bs : Nat → Nat} (h : atom.OwnC w lo hi v fs cs bs) {p : Addr} (hp : p.block < lo) : atom.OwnC (w.setCell p u) lo hi v fs cs bs :=
  ⟨ownsRow_set h.1 hp, h.2.keep fun q a _ _ => Below.heap_setCell _ _ _ _ (by omega)⟩

/-- The atoms without the one with this number. -/
def dropL (l : FL) (a : Int) : FL := if a < 0 then l else l.eraseIdx a.toNat
theorem take_snocA (l : FL) {k : Nat} (hk : k < l.length) {f : Int × List Int} (hf : l.getD k (0, []) = f) : l.take (k + 1) = l.take k ++ [f] := by
  rw [List.take_succ_eq_append_getElem hk]
  have : l[k] = l.getD k (0, []) := by simp [List.getD_eq_getElem?_getD, hk]
  rw [this, hf]
theorem dropL_here (l : FL) {a : Int} {k : Nat} (hk : k < l.length) (ha : (k : Int) = a) : dropL (l.take (k + 1)) a = dropL (l.take k) a := by
  subst ha
  have hl : (l.take k).length = k := by rw [List.length_take]; omega
  have h2 : (l.take k).eraseIdx k = l.take k := List.eraseIdx_of_length_le (by omega)
  unfold dropL
  rw [if_neg (by omega), if_neg (by omega), Int.toNat_natCast, take_snocA l hk rfl, List.eraseIdx_append_of_length_le (by omega), hl, h2, Nat.sub_self]
  simp
theorem dropL_more (l : FL) {a : Int} {k : Nat} (hk : k < l.length) (ha : ¬ (k : Int) = a) {f : Int × List Int} (hf : l.getD k (0, []) = f) : dropL (l.take (k + 1)) a = dropL (l.take k) a ++ [f] := by
  have hl : (l.take k).length = k := by rw [List.length_take]; omega
  unfold dropL
  by_cases h0 : a < 0
  · rw [if_pos h0, if_pos h0, take_snocA l hk hf]
  · rw [if_neg h0, if_neg h0, take_snocA l hk hf]
    by_cases h1 : a.toNat < k
    · rw [List.eraseIdx_append_of_lt_length (by omega)]
    · rw [List.eraseIdx_of_length_le (by rw [List.length_append, hl]; simp; omega), List.eraseIdx_of_length_le (by omega)]
theorem dropL_len (l : FL) (a : Int) : (dropL l a).length ≤ l.length := by
  unfold dropL
  split
  · exact Nat.le_refl _
  · rw [List.length_eraseIdx]; split <;> omega

/-- One atom more, in its block, behind a row of atoms. -/
theorem app_done {wr u5 v31 : World} {g5 c2 q5 c5 g31 cap31 : Nat} {out : FL} {cs : List Value} {bs : Nat → Nat} {A2 A5 : Option Addr} {r : Int} {xs : List Int}
    (hsz : g5 + 1 ≤ wr.heap.size) (b5 : Below wr.heap.size wr u5) (hv5 : OwnV u5 wr.heap.size u5.heap.size (.slice A5 xs.length c5) q5 xs)
    (HO5 : atom.OwnC (u5.alloc (.cells #[.int .i64 r, .slice A5 xs.length c5] 68)) (g5 + 1) wr.heap.size (.slice A2 out.length c2) out cs bs)
    (hgrow : (u5.alloc (.cells #[.int .i64 r, .slice A5 xs.length c5] 68)).grownBy v31 (Value.slice A2 out.length c2).ownBlock)
    (hown31 : v31.ownsRow (g5 + 1) 68 2 (.slice (some ⟨g31, 0, none⟩) (out.length + 1) cap31) (out.length + 1) (cs ++ [.int .i64 r, .slice A5 xs.length c5])) :
    ∃ bs31, atom.OwnC v31 (g5 + 1) v31.heap.size (.slice (some ⟨g31, 0, none⟩) (out.length + 1) cap31) (out ++ [(r, xs)]) (cs ++ [.int .i64 r, .slice A5 xs.length c5]) bs31 ∧ Below (g5 + 1) wr v31 := by
  have hz := b5.size
  have HV5 := OwnV.step hv5 (below_alloc u5 (.cells #[.int .i64 r, .slice A5 xs.length c5] 68))
  have d31 : Below (g5 + 1) (u5.alloc (.cells #[.int .i64 r, .slice A5 xs.length c5] 68)) v31 := (Below.refl _ _).grown hgrow (by rw [al_size]; omega) (fun q hq => (HO5.1.lt q hq).1)
  obtain ⟨bs31, ho31⟩ := atom.own_append HO5 (Items.one HV5) hsz (by rw [al_size]; omega) (by simpa using hown31) hgrow
  exact ⟨bs31, by simpa using ho31, ((step b5 (below_alloc u5 (.cells #[.int .i64 r, .slice A5 xs.length c5] 68))).mono hsz).trans d31⟩
theorem drp_rel {w w5 wr v31 : World} {g5 ch c cH c2 g31 cap31 : Nat} {H Q AH A2 : Option Addr} {hs : List Int} {l out : FL} {r : Int} {xs : List Int} {cs : List Value} {bs : Nat → Nat}
    (gl : w.heap.size + 1 + 1 ≤ g5) (hsz : g5 + 1 ≤ wr.heap.size) (hZ : Box wr g5 #[.slice AH hs.length cH, .slice A2 out.length c2] 34)
    (hO : atom.OwnC v31 (g5 + 1) v31.heap.size (.slice (some ⟨g31, 0, none⟩) (out.length + 1) cap31) (out ++ [(r, xs)]) cs bs)
    (hX : Box wr w.heap.size #[.slice H hs.length ch, .slice Q l.length c] 34) (hY : Box wr (w.heap.size + 1) #[.slice none 0 0, .slice none 0 0] 34) (hB : Below w.heap.size w wr) (hG : Below g5 w5 wr) (b : Below (g5 + 1) wr v31) :
    Box (v31.setCell ⟨g5, 1, none⟩ (.slice (some ⟨g31, 0, none⟩) (out.length + 1) cap31)) g5 #[.slice AH hs.length cH, .slice (some ⟨g31, 0, none⟩) (out ++ [(r, xs)]).length cap31] 34 ∧
    Hid (atom.OwnC (v31.setCell ⟨g5, 1, none⟩ (.slice (some ⟨g31, 0, none⟩) (out.length + 1) cap31)) (g5 + 1) (v31.setCell ⟨g5, 1, none⟩ (.slice (some ⟨g31, 0, none⟩) (out.length + 1) cap31)).heap.size (.slice (some ⟨g31, 0, none⟩) (out ++ [(r, xs)]).length cap31) (out ++ [(r, xs)]) cs bs) ∧
    Hid (Box (v31.setCell ⟨g5, 1, none⟩ (.slice (some ⟨g31, 0, none⟩) (out.length + 1) cap31)) w.heap.size #[.slice H hs.length ch, .slice Q l.length c] 34) ∧ Hid (Box (v31.setCell ⟨g5, 1, none⟩ (.slice (some ⟨g31, 0, none⟩) (out.length + 1) cap31)) (w.heap.size + 1) #[.slice none 0 0, .slice none 0 0] 34) ∧
    Hid (Below w.heap.size w (v31.setCell ⟨g5, 1, none⟩ (.slice (some ⟨g31, 0, none⟩) (out.length + 1) cap31))) ∧ Hid (Below g5 w5 (v31.setCell ⟨g5, 1, none⟩ (.slice (some ⟨g31, 0, none⟩) (out.length + 1) cap31))) ∧ g5 + 1 ≤ (v31.setCell ⟨g5, 1, none⟩ (.slice (some ⟨g31, 0, none⟩) (out.length + 1) cap31)).heap.size := by
  have el : (out ++ [(r, xs)]).length = out.length + 1 := by simp
  have hz := b.size
  rw [el, set_size]
  refine ⟨box_set1 (show Box v31 g5 #[.slice AH hs.length cH, .slice A2 out.length c2] 34 from (b.block _ (by omega)).trans hZ), Lib.hid (ownC_setD hO (show g5 < g5 + 1 by omega)), Lib.hid ?_, Lib.hid ?_, Lib.hid ((hB.trans (b.mono (by omega))).setCell (by (try simp) <;> omega) _), Lib.hid ((hG.trans (b.mono (by omega))).setCell (Nat.le_refl _) _), by omega⟩
  · exact (Below.heap_setCell v31 ⟨g5, 1, none⟩ _ _ (by (try simp) <;> omega)).trans ((b.block _ (by omega)).trans hX)
  · exact (Below.heap_setCell v31 ⟨g5, 1, none⟩ _ _ (by (try simp) <;> omega)).trans ((b.block _ (by omega)).trans hY)

/-- What a query of the model's is. -/
def QSo (w : World) (hs : List Int) (l : FL) (e : Ending) (w' : World) : Prop := ∃ H A ch c, e = .returned (.agg #[.slice H hs.length ch, .slice A l.length c]) ∧ RI w' H hs ∧ RF w' A l ∧ Below w.heap.size w w'
theorem CopyF.toR {w : World} {r : Int} {xs : List Int} {e : Ending} {w' : World} (h : CopyF w r xs e w') : ∃ v, e = .returned v ∧ ∃ A c q, v = .agg #[.int .i64 r, .slice A xs.length c] ∧ OwnV w' w.heap.size w'.heap.size (.slice A xs.length c) q xs ∧ Below w.heap.size w w' := by
  obtain ⟨A, c, q, h1, h2, h3⟩ := h
  exact ⟨_, h1, A, c, q, rfl, h2, h3⟩

set_option maxRecDepth 100000 in
set_option maxHeartbeats 400000 in
theorem l3Atom_any (r : Int) (A : Option Addr) (c : Nat) (xs : List Int) (hl : xs.length ≤ 1048576) (w : World) (h : RI w A xs) :
    Calls Try.prog 74 #[.int .i64 r, .slice A xs.length c] w (CopyF w r xs) := by
  obtain ⟨i0, hi, hz0, hz1, hz2⟩ := info_parts int_info
  have B1 := below_alloc w (.cells #[.int .i64 0, .slice none 0 0] 68)
  have HI := Lib.hid ((h.step B1).step (below_alloc _ (.cells #[] 3)))
  have HB1 := Lib.hid B1
  clear h B1
  go_enter Try.func74, Try.ntmps74
  go_wp2_with (at_builtin; refine wpList_append_nums rfl _ _ 22 rfl (w.heap.size + 1) 3 i0 Try.underlying22 hi hz0 hz1 hz2 (.slice (some ⟨w.heap.size + 1, 0, none⟩) 0 0) 0 [] rfl (by have := World.ownsRow_lit (base := w.heap.size + 1) (e := 3) (size := 1) (w.alloc (.cells #[.int .i64 0, .slice none 0 0] 68)) #[] 0 (by simp) (by unfold maxLen; omega) rfl; rw [al_size] at this; exact this) _ _ A c xs rfl HI.out (by omega) (by simp) ?_; intro v' w' hown hg hat
               have hown' : w'.ownsRow (w.heap.size + 1) 3 1 v' (0 + xs.length) (xs.map (Value.int .i64)) := by simpa using hown
               obtain ⟨q, hv⟩ := ownV_of_row hown'
               obtain ⟨A2, c2, rfl, _, _⟩ := hv.form
               have HV := Lib.hid hv
               have HG := Lib.hid hg
               have X4 : Box w' w.heap.size #[.int .i64 0, .slice none 0 0] 68 := (hg.block w.heap.size (by simp <;> omega) (by simp [Value.ownBlock])).trans ((Box.new w _ _).step (below_alloc _ _))
               have g0 := X4.cell 0
               have g1 := X4.cell 1
               have g2 := X4.frozen 0
               have g3 := X4.frozen 1
               simp only [List.getElem?_toArray, List.getElem?_cons_zero, List.getElem?_cons_succ] at g0 g1
               have HX4 := Lib.hid X4
               clear hown hown' hv hg hat X4)
  have hlt := HX4.out.lt
  have HB := Lib.hid (show Below w.heap.size w w' from (step HB1.out (below_alloc _ (.cells #[] 3))).grown HG.out (by (try simp) <;> omega) (fun k hk => by have := own_some hk; omega))
  refine bodyPost_ret (v := .agg #[.int .i64 r, .slice A2 xs.length c2]) (by simp [results, Try.results74, go_sem, g0, g1]) rfl ⟨A2, c2, q, rfl, ?_, ?_⟩
  · rw [size2]
    exact (HV.out.keep fun h1 _ _ => (Below.heap_setCell _ ⟨w.heap.size, 1, none⟩ _ q (by (try simp) <;> omega)).trans (Below.heap_setCell _ ⟨w.heap.size, 0, none⟩ _ q (by (try simp) <;> omega))).mono (by omega) (Nat.le_refl _)
  · exact Below.setCell (Below.setCell HB.out (by simp) _) (by simp) _

end Go.Proofs.Ytpdmkdhnidgjoaa
