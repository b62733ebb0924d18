/- What the program's DropAtom leaves. Conditions: none beyond each theorem's own. -/
import Derived.Test.YtpdmkdhnidgjoaaDel
import Derived.Test.YtpdmkdhnidgjoaaDrp
namespace Go.Proofs.Ytpdmkdhnidgjoaa
open Go.ChangeShapes Go.WideShapes Go.ChangeAt Go.RowKit Go.Sort
set_option linter.unusedVariables false
set_option linter.unusedSimpArgs false

/-- A query of the call's own, handed back. -/
def QOut (w : World) (hs : List Int) (l : FL) (e : Ending) (w' : World) : Prop := ∃ H A ch c mid, e = .returned (.agg #[.slice H hs.length ch, .slice A l.length c]) ∧ QO w' w.heap.size mid w'.heap.size H A ch c hs l ∧ Below w.heap.size w w'
theorem CpQ.out {w : World} {hs : List Int} {l : FL} {e : Ending} {w' : World} (h : CpQ w hs l e w') : QOut w hs l e w' := by
  obtain ⟨A, c, q, mid, h1, h2, h3, h4, h5, h6⟩ := h
  exact ⟨A, some ⟨mid, 0, none⟩, c, l.length, mid, h1, ⟨⟨q, h2⟩, .inr ⟨mid, l.length * 2, rfl, h3, Nat.le_refl _⟩, by omega, by omega, Nat.le_refl _⟩, h6⟩
theorem ownP_monoD {w : World} {lo hi hi' g m k : Nat} {fs : FL} (h : atom.OwnP w lo hi g m k fs) (hh : hi ≤ hi') : atom.OwnP w lo hi' g m k fs := by
  obtain ⟨h1, h2, F, bs, hr, he, hd⟩ := h
  exact ⟨h1, by omega, F, bs, hr, fun j hj => ⟨(he j hj).1, (he j hj).2.mono (Nat.le_refl _) hh⟩, hd⟩
theorem ownP_setD {w : World} {lo hi g m k : Nat} {fs : FL} {p : Addr} {u : Value} (h : atom.OwnP w lo hi g m k fs) (hp : p.block < lo ∨ hi ≤ p.block) : atom.OwnP (w.setCell p u) lo hi g m k fs :=
  h.keep fun b h1 h2 => Below.heap_setCell _ _ _ _ (by omega)
theorem dropL_in {l : FL} {k : Nat} : dropL l (k : Int) = l.eraseIdx k := by
  unfold dropL
  rw [if_neg (by omega), Int.toNat_natCast]
theorem dropL_out {l : FL} {a : Int} (h : inB a 0 ((l.length : Int) - 1) = false) : dropL l a = l := by
  unfold dropL
  split
  · rfl
  · refine List.eraseIdx_of_length_le ?_
    simp [inB] at h
    omega

set_option maxRecDepth 100000 in
set_option maxHeartbeats 2000000 in
theorem impl_DropAtom (H Q : Option Addr) (ch c : Nat) (hs : List Int) (l : FL) (a : Int) (hh : hs.length ≤ 1048576) (hz : szF l ≤ 1048576) (w : World) (h : RI w H hs) (hq : RF w Q l) :
    Calls Try.prog 41 #[.agg #[.slice H hs.length ch, .slice Q l.length c], .int .i64 a] w (QOut w hs (dropL l a)) := by
  have hl := szF_len hz
  have hl' : (l.length : Int) ≤ 1048576 := by omega
  obtain ⟨w0, hw0⟩ : ∃ W, W = (w.alloc (.cells #[.slice H hs.length ch, .slice Q l.length c] 34)).alloc (.cells #[.slice none 0 0, .slice none 0 0] 34) := ⟨_, rfl⟩
  have E0 := Lib.hid hw0
  have S0 : w.heap.size + 2 ≤ w0.heap.size := by rw [hw0, al_size, al_size]; omega
  have B0 := Lib.hid (show Below w.heap.size w w0 by rw [hw0]; exact step (below_alloc w _) (below_alloc _ _))
  have X0 := Lib.hid (show Box w0 w.heap.size #[.slice H hs.length ch, .slice Q l.length c] 34 by rw [hw0]; exact (Box.new w _ _).step (below_alloc _ _))
  have Y0 := Lib.hid (show Box w0 (w.heap.size + 1) #[.slice none 0 0, .slice none 0 0] 34 by
    rw [hw0]
    have h := Box.new (w.alloc (.cells #[.slice H hs.length ch, .slice Q l.length c] 34)) #[.slice none 0 0, .slice none 0 0] 34
    rwa [al_size] at h)
  have XC := Lib.hid (copyQuery_any H Q ch c hs l hh hz w0 (h.step B0.out) (hq.step B0.out))
  clear h hq hw0
  go_enter Try.func41, Try.ntmps41
  go_wp2_with fail
  rw [← E0.out]
  refine XC.out.mono ?_
  rintro e u ⟨A1, c1, q1, mid, rfl, hv, ho, hm, hml, hb⟩
  have V1 := Lib.hid hv
  have O1 := Lib.hid ho
  have B1 := Lib.hid (step B0.out hb)
  have D1 := Lib.hid hb
  have X1 := Lib.hid (X0.out.step hb)
  have Y1 := Lib.hid (Y0.out.step hb)
  have hb2 := below_alloc u (.cells #[.slice A1 hs.length c1, .slice (some ⟨mid, 0, none⟩) l.length l.length] 34)
  have Z2 := Lib.hid (Box.new u #[.slice A1 hs.length c1, .slice (some ⟨mid, 0, none⟩) l.length l.length] 34)
  have V2 := Lib.hid (V1.out.keep fun _ b _ => hb2.block _ (by omega))
  have O2 := Lib.hid (O1.out.keep fun b _ b2 => hb2.block _ b2)
  have X2 := Lib.hid (X1.out.step hb2)
  have Y2 := Lib.hid (Y1.out.step hb2)
  have B2 := Lib.hid (step B1.out hb2)
  obtain ⟨u2, hu2⟩ : ∃ W, W = u.alloc (.cells #[.slice A1 hs.length c1, .slice (some ⟨mid, 0, none⟩) l.length l.length] 34) := ⟨_, rfl⟩
  have S2 := Lib.hid (show u2.heap.size = u.heap.size + 1 by rw [hu2, al_size])
  have E2 := Lib.hid hu2
  rw [← hu2] at Z2 V2 O2 X2 Y2 B2
  have x1 := X2.out.cell 1
  have z0 := Z2.out.cell 0
  have z1 := Z2.out.cell 1
  have z2 := Z2.out.frozen 0
  have z3 := Z2.out.frozen 1
  have y0 := Y2.out.cell 0
  have y1 := Y2.out.cell 1
  have y2 := Y2.out.frozen 0
  have y3 := Y2.out.frozen 1
  have zl := Z2.out.lt
  simp only [List.getElem?_toArray, List.getElem?_cons_zero, List.getElem?_cons_succ] at x1 z0 z1 y0 y1
  have xu1 := X1.out.cell 1
  have xul := X1.out.lt
  simp only [List.getElem?_toArray, List.getElem?_cons_zero, List.getElem?_cons_succ] at xu1
  clear hb hb2 hv ho hu2
  by_cases hin : inB a 0 ((l.length : Int) - 1) = true
  · have HN := Lib.hid hin
    have hr : 0 ≤ a ∧ a ≤ (l.length : Int) - 1 := by simpa [inB] using hin
    obtain ⟨i, rfl⟩ := Int.eq_ofNat_of_zero_le hr.1
    clear hin
    obtain ⟨k, hk⟩ : ∃ k, l.length = k + 1 := ⟨l.length - 1, by omega⟩
    have hik : i < k + 1 := by omega
    have hk1 : k < 1048576 := by omega
    have XD := Lib.hid (delete_any mid u.heap.size mid k i l hk hik hk1 u2 (by have := O2.out; rwa [hk] at this))
    have EL := Lib.hid (show (dropL l (i : Int)).length = k by rw [dropL_in, List.length_eraseIdx, if_pos (by omega), hk]; omega)
    have ED := Lib.hid (dropL_in (l := l) (k := i))
    have ha1 : (0 : Int) ≤ (i : Int) := by omega
    have ha2 : (i : Int) ≤ 1048576 := by omega
    rw [hk] at z1 x1 xu1
    have E3 := Lib.hid (by have h := E2.out; rw [hk] at h; exact h)
    have HN2 := Lib.hid (show inB (i : Int) 0 (k : Int) = true by have h := HN.out; rw [hk] at h; rwa [show (((k + 1 : Nat) : Int) - 1) = (k : Int) by omega] at h)
    have KK := Lib.hid hk
    rw [hk]
    clear hr hk hl'
    have hk2 : (k : Int) < 1048576 := by omega
    go_wp2_with fail
    rw [← E3.out]
    refine (isBetween_any (i : Int) 0 (k : Int) _).mono ?_
    rintro e w1 ⟨he, rfl⟩
    rw [HN2.out] at he
    subst he
    go_wp2_with fail
    refine XD.out.mono ?_
    rintro e u3 ⟨rfl, ho3, hw3⟩
    have O3 := Lib.hid ho3
    have W3 := Lib.hid hw3
    have Z3 := Lib.hid (show Box u3 u.heap.size _ _ from (hw3.block _ (.inr (by omega))).trans Z2.out)
    have Y3 := Lib.hid (show Box u3 (w.heap.size + 1) _ _ from (hw3.block _ (.inl (by omega))).trans Y2.out)
    have V3 := Lib.hid (V2.out.keep fun _ b _ => hw3.block _ (.inl b))
    have s3 := hw3.size
    have z03 := Z3.out.cell 0
    have z13 := Z3.out.cell 1
    have z23 := Z3.out.frozen 0
    have z33 := Z3.out.frozen 1
    have y03 := Y3.out.cell 0
    have y13 := Y3.out.cell 1
    have y23 := Y3.out.frozen 0
    have y33 := Y3.out.frozen 1
    simp only [List.getElem?_toArray, List.getElem?_cons_zero, List.getElem?_cons_succ] at z03 z13 y03 y13
    have zl3 := Z3.out.lt
    have hne : w.heap.size + 1 ≠ u.heap.size := by omega
    have B3 := Lib.hid (B2.out.trans (hw3.below.mono (by omega)))
    have S3 := Lib.hid s3
    clear z0 z1 z2 z3 y0 y1 y2 y3 x1 ho3 hw3 s3
    go_wp2
    refine bodyPost_ret (v := .agg #[.slice A1 hs.length c1, .slice (some ⟨mid, 0, none⟩) k (k + 1)]) (by simp [results, Try.results41, go_sem, y03, y13, y23, y33, z03, z13, hne]) rfl ?_
    refine ⟨A1, some ⟨mid, 0, none⟩, c1, k + 1, mid, by rw [EL.out], ⟨⟨q1, ?_⟩, .inr ⟨mid, (k + 1) * 2, rfl, ?_, ?_⟩, ?_, ?_, Nat.le_refl _⟩, ?_⟩
    · exact (((V3.out.keep fun h1 h2 _ => Below.heap_setCell _ ⟨u.heap.size, 1, none⟩ _ q1 (by (try simp); omega)).keep fun h1 h2 _ => Below.heap_setCell _ ⟨w.heap.size + 1, 0, none⟩ _ q1 (by (try simp); omega)).keep fun h1 h2 _ => Below.heap_setCell _ ⟨w.heap.size + 1, 1, none⟩ _ q1 (by (try simp); omega)).mono (by omega) (Nat.le_refl _)
    · rw [EL.out, ED.out]
      refine ownP_monoD (hi := u.heap.size) ?_ (by rw [set_size, set_size, set_size, S3.out, S2.out]; omega)
      exact ownP_setD (ownP_setD (ownP_setD O3.out (.inr (Nat.le_refl _))) (.inl (by (try simp); omega))) (.inl (by (try simp); omega))
    · rw [EL.out]; omega
    · omega
    · rw [set_size, set_size, set_size, S3.out, S2.out]; omega
    · exact Below.setCell (Below.setCell (Below.setCell B3.out (by (try simp) <;> omega) _) (by (try simp) <;> omega) _) (by (try simp) <;> omega) _
  · have HN := Lib.hid (show inB a 0 ((l.length : Int) - 1) = false by simpa using hin)
    have ED := Lib.hid (dropL_out HN.out)
    clear hin
    go_wp2_with fail
    rw [← E2.out]
    refine (isBetween_any a 0 ((l.length : Int) - 1) _).mono ?_
    rintro e w1 ⟨he, rfl⟩
    rw [HN.out] at he
    subst he
    have hne : w.heap.size + 1 ≠ u.heap.size := by omega
    go_wp2
    refine bodyPost_ret (v := .agg #[.slice A1 hs.length c1, .slice (some ⟨mid, 0, none⟩) l.length l.length]) (by simp [results, Try.results41, go_sem, y0, y1, y2, y3, z0, z1, hne]) rfl ?_
    rw [ED.out]
    refine ⟨A1, some ⟨mid, 0, none⟩, c1, l.length, mid, rfl, ⟨⟨q1, ?_⟩, .inr ⟨mid, l.length * 2, rfl, ?_, Nat.le_refl _⟩, by omega, ?_, Nat.le_refl _⟩, ?_⟩
    · exact ((V2.out.keep fun h1 h2 _ => Below.heap_setCell _ ⟨w.heap.size + 1, 0, none⟩ _ q1 (by (try simp); omega)).keep fun h1 h2 _ => Below.heap_setCell _ ⟨w.heap.size + 1, 1, none⟩ _ q1 (by (try simp); omega)).mono (by omega) (Nat.le_refl _)
    · refine ownP_monoD (hi := u.heap.size) ?_ (by rw [set_size, set_size, S2.out]; omega)
      exact ownP_setD (ownP_setD O2.out (.inl (by (try simp); omega))) (.inl (by (try simp); omega))
    · rw [set_size, set_size, S2.out]; omega
    · exact Below.setCell (Below.setCell B2.out (by (try simp) <;> omega) _) (by (try simp) <;> omega) _
end Go.Proofs.Ytpdmkdhnidgjoaa
