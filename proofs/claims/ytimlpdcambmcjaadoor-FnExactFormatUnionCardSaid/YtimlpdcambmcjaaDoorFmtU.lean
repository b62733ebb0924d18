/- What the two functions FormatUnion answer. Conditions: none beyond each theorem's own. -/
import Derived.Test.YtimlpdcambmcjaaDoorFmtQS
import Derived.Test.YtimlpdcambmcjaaDoorWds
import Derived.Test.YtimlpdcambmcjaaDoorUnsL
import Derived.Test.YtimlpdcambmcjaaDoorQR
import Derived.Lib.SlicesS
namespace Go.Proofs.YtimlpdcambmcjaaDoor
open Go.ChangeShapes Go.WideShapes Go.ChangeAt Go.RowKit Go.Sort
set_option linter.unusedVariables false
set_option linter.unusedSimpArgs false

section
variable {H : Type} {enc : TypeId × Value → H} {w : World}
/-- All numbers of the heads are such as an int holds. -/
def headsW (us : UL) : Prop := ∀ k, k < us.length → ∀ n ∈ (us.getD k noU).1, (Lit.int .i64 n).wf = true
set_option maxRecDepth 100000 in
theorem open_queriesR_at {fuel : Nat} {v : Value} {x : DataW H × List MemPlace} (hf : DataW.trod enc Tryd.prog w 0 (fun _ => true) true fuel 22 [v] = some x) :
    ∃ (A : Option Addr) (c : Nat) (us : UL), v = .slice A us.length c ∧ us.length ≤ c ∧ c ≤ maxLen ∧ Uns w 0 w.heap.size A us ∧ headsW us := by
  have hC : Tryd.prog.cellsOf 33 = 2 := by kernel_rfl
  rcases Go.Deep.open_slice Tryd.underlying22 hf with ⟨hv, _⟩ | ⟨a, len, cap, m, n, D, Pl, hv, _, hl, hm, hmm, _, hi⟩
  · injection hv with hv
    exact ⟨none, 0, [], hv, Nat.le_refl _, by unfold maxLen; omega, fun h => absurd rfl h, fun k hk => absurd hk (Nat.not_lt_zero _)⟩
  · injection hv with hv
    rw [hC] at hi
    simp only [if_true] at hmm
    have each : ∀ i, i < len → ∃ x : Qr, ∃ H ch B c', w.cell? (a.add (i * 2)) = some (.slice H x.1.length ch) ∧ w.cell? (a.add (i * 2 + 1)) = some (.slice B x.2.length c') ∧ x.1.length ≤ ch ∧ ch ≤ maxLen ∧ x.2.length ≤ c' ∧ c' ≤ maxLen ∧ Ints w 0 w.heap.size H x.1 ∧ Facts w 0 w.heap.size B x.2 ∧ ∀ n ∈ x.1, (Lit.int .i64 n).wf = true := by
      intro i hil
      obtain ⟨cs, hc, ht⟩ := hi i (by omega)
      obtain ⟨_, hcl, hat⟩ := World.cells?_some hc
      obtain ⟨y0, y1, n', _, _, h0, h1⟩ := trod_struct2 Tryd.underlying33 ht
      have k0 : Tryd.prog.cellsOf 30 = 1 := by kernel_rfl
      have k1 : Tryd.prog.cellsOf 31 = 1 := by kernel_rfl
      have k2 : Tryd.prog.cellsOf 3 = 1 := by kernel_rfl
      have e0 := hat 0 (by omega)
      have e1 := hat 1 (by omega)
      match cs, hcl with
      | [u0, u1], _ =>
        simp only [k0, k1] at h0 h1
        simp at h0 h1 e0 e1
        obtain ⟨A, ch, xs, hv0, hl0, hm0, hi0, hw0⟩ := open_numsW (v := u0) Tryd.underlying30 Tryd.underlying3 k2 h0
        obtain ⟨B, c', l, hv1, hl1, hm1, hi1⟩ := atom.open_atoms_at (v := u1) h1
        subst hv0 hv1
        refine ⟨(xs, l), A, ch, B, c', ?_, ?_, hl0, hm0, hl1, hm1, hi0, hi1, hw0⟩
        · exact e0
        · rw [Go.Deep.add_add] at e1; exact e1
    obtain ⟨f, hfx⟩ := Go.Deep.choose_lt each
    have hlen : ((List.range len).map f).length = len := by simp
    refine ⟨some a, cap, (List.range len).map f, by rw [hlen]; exact hv, by rw [hlen]; exact hl, hm, fun hne => ?_, fun k hk n hn => by
      have hk' : k < len := by rw [hlen] at hk; exact hk
      obtain ⟨_, _, _, _, _, _, _, _, _, _, _, _, g9⟩ := hfx k hk'
      have hx : ((List.range len).map f).getD k noU = f k := by simp [List.getD_eq_getElem?_getD, hk']
      rw [hx] at hn
      exact g9 n hn⟩
    have hpos : 0 < len := by
      rcases Nat.eq_zero_or_pos len with h0 | h0
      · subst h0; simp at hne
      · exact h0
    obtain ⟨b, off, spot⟩ := a
    obtain ⟨_, _, _, _, hc0, _⟩ := hfx 0 hpos
    have hspot : spot = none := by simpa [Addr.add] using World.cell?_spot hc0
    subst hspot
    have hb := World.block_lt_of_cell? w _ hc0
    refine ⟨b, off, rfl, by omega, by simpa [Addr.add] using hb, fun k hk => ?_⟩
    have hk' : k < len := by rw [hlen] at hk; exact hk
    have e : ∀ j, (⟨b, off, none⟩ : Addr).add j = ⟨b, off + j, none⟩ := fun j => by unfold Addr.add; split <;> simp_all
    obtain ⟨H, ch, B, c', g1, g2, g3, g4, g5, g6, g7, g8, _⟩ := hfx k hk'
    rw [e] at g1 g2
    have hx : ((List.range len).map f).getD k noU = f k := by simp [List.getD_eq_getElem?_getD, hk']
    rw [hx]
    exact ⟨H, ch, B, c', g1, g2, g3, g4, g5, g6, g7, g8⟩
set_option maxRecDepth 100000 in
theorem open_queriesR {r : Reach} {base : Nat} {v : Value} {d : DataW H} {p : List MemPlace} (hv : Value.okWide Tryd.prog w r base 22 v) (h : DataW.Trod enc Tryd.prog w 0 (fun _ => true) true 22 v d p) :
    ∃ (A : Option Addr) (c : Nat) (us : UL), v = .slice A us.length c ∧ us.length ≤ c ∧ c ≤ maxLen ∧ Uns w 0 w.heap.size A us ∧ headsW us := by
  obtain ⟨fuel, hf⟩ := h
  obtain ⟨A, l, c, rfl⟩ := okWide_slice Tryd.underlying22 hv
  exact open_queriesR_at hf
end

/-- The text of one query. -/
def qT (q : Qr) : List UInt8 := headL q.1 ++ [32, 105, 102, 32] ++ andL q.2
theorem fmtQ_qT {hs : List Int} {l : FL} (h : qOk hs l = true) : fmtQ hs l = ⟨(qT (hs, l)).toArray⟩ := fmtQ_yes h
theorem qOk_allR {hs : List Int} {l : FL} (h : qOk hs l = true) : hs.length ≤ 3 ∧ allR hs ∧ okA l = true ∧ l.length ≤ 4 := by
  unfold qOk headB at h
  simp only [Bool.and_eq_true, decide_eq_true_eq] at h
  have h4 := h.1.1
  simp only [inB, Bool.and_eq_true, decide_eq_true_eq] at h4
  exact ⟨h.1.2.1, allR_of (head_allR (l := l) h.1.2.2), h.2, by omega⟩
theorem qT_len {hs : List Int} {l : FL} (h : qOk hs l = true) : 4 ≤ (qT (hs, l)).length ∧ (qT (hs, l)).length ≤ 374 := by
  obtain ⟨h1, h2, h3, h4⟩ := qOk_allR h
  have a := headL_len h1 h2
  have b := andL_len l h3
  unfold qT
  simp only [List.length_append, List.length_cons, List.length_nil]
  omega
def okU (us : UL) (n : Nat) : Bool := (List.range n).all fun k => qOk (us.getD k noU).1 (us.getD k noU).2
theorem okU_succ (us : UL) (k : Nat) : okU us (k + 1) = (okU us k && qOk (us.getD k noU).1 (us.getD k noU).2) := by
  unfold okU
  rw [List.range_succ, List.all_append]
  simp
theorem okU_not (us : UL) (k n : Nat) (hk : k < n) (h : qOk (us.getD k noU).1 (us.getD k noU).2 = false) : okU us n = false := by
  unfold okU
  rw [List.all_eq_false]
  exact ⟨k, by simpa using hk, by rw [h]; simp⟩
theorem okU_at (us : UL) {n k : Nat} (h : okU us n = true) (hk : k < n) : qOk (us.getD k noU).1 (us.getD k noU).2 = true := by
  unfold okU at h
  rw [List.all_eq_true] at h
  exact h k (by simpa using hk)
theorem okU_mem {us : UL} (h : okU us us.length = true) {a : Qr} (ha : a ∈ us) : qOk a.1 a.2 = true := by
  obtain ⟨k, hk, rfl⟩ := List.getElem_of_mem ha
  have := okU_at us h hk
  simpa [List.getD_eq_getElem?_getD, hk] using this
/-- The queries' texts, the word between them. -/
def orL : UL → List UInt8
  | [] => []
  | [x] => qT x
  | x :: y :: r => qT x ++ ([32, 111, 114, 32] ++ orL (y :: r))
theorem orL_snoc : ∀ (l : UL) (x : Qr), l ≠ [] → orL (l ++ [x]) = orL l ++ ([32, 111, 114, 32] ++ qT x)
  | [], x, h => absurd rfl h
  | [y], x, _ => rfl
  | y :: z :: r, x, _ => by
    have ih := orL_snoc (z :: r) x (by simp)
    simp only [List.cons_append] at ih ⊢
    rw [orL, orL, ih]
    simp
theorem orL_take (l : UL) (k : Nat) (hk : k < l.length) : orL (l.take (k + 1)) = if k = 0 then qT (l.getD k noU) else orL (l.take k) ++ ([32, 111, 114, 32] ++ qT (l.getD k noU)) := by
  have e : l[k] = l.getD k noU := by simp [List.getD_eq_getElem?_getD, hk]
  rw [List.take_succ_eq_append_getElem hk, e]
  by_cases h0 : k = 0
  · subst h0; simp [orL]
  · rw [if_neg h0, orL_snoc]
    intro h
    have := congrArg List.length h
    rw [List.length_take, List.length_nil] at this
    omega
theorem orL_len : ∀ l : UL, (∀ a ∈ l, qOk a.1 a.2 = true) → (orL l).length ≤ 378 * l.length
  | [], _ => by simp [orL]
  | [x], h => by
    have : (qT x).length ≤ 374 := (qT_len (h x (by simp))).2
    simp only [orL, List.length_cons, List.length_nil]
    omega
  | x :: y :: r, h => by
    have h1 := orL_len (y :: r) fun a ha => h a (List.mem_cons_of_mem _ ha)
    have h2 : (qT x).length ≤ 374 := (qT_len (h x (by simp))).2
    simp only [orL, List.length_cons, List.length_append] at *
    simp only [List.length_nil]
    omega
theorem or_join : ∀ l : UL, Lib.join (l.map qT) [32, 111, 114, 32] = orL l
  | [] => rfl
  | [x] => by simp [Lib.join_one, orL]
  | x :: y :: r => by
    have ih := or_join (y :: r)
    simp only [List.map_cons] at ih ⊢
    rw [Lib.join_cons] at ih ⊢
    rw [orL, ← ih]
    simp [Lib.joinTail]
theorem okU_take {l : UL} {k : Nat} (h : okU l k = true) : ∀ a ∈ l.take k, qOk a.1 a.2 = true := by
  intro a ha
  obtain ⟨j, hj, rfl⟩ := List.getElem_of_mem ha
  rw [List.length_take] at hj
  have := okU_at l h (show j < k by omega)
  simpa [List.getD_eq_getElem?_getD, show j < l.length by omega] using this
/-- The text of a union. -/
def fmtU (l : UL) : ByteArray := if okU l l.length = true then ⟨(orL l).toArray⟩ else ⟨#[]⟩
theorem fmtU_yes {l : UL} (h : okU l l.length = true) : fmtU l = ⟨(orL l).toArray⟩ := if_pos h
theorem fmtU_no {l : UL} (h : okU l l.length = false) : fmtU l = ⟨#[]⟩ := if_neg (by rw [h]; decide)

set_option maxRecDepth 100000 in
set_option maxHeartbeats 1000000 in
theorem spec_FormatUnion (A : Option Addr) (c : Nat) (l : UL) (hz : szU l ≤ 1048576) (hr9 : headsW l) (w : World) (h : RU w A l) :
    Calls Tryd.prog 5 #[.slice A l.length c] w fun e w' => e = .returned (.string (fmtU l)) ∧ Below w.heap.size w w' := by
  have hl := szU_len hz
  have hl' : (l.length : Int) ≤ 1048576 := by omega
  have HJ := Lib.hid h
  have HR9 := Lib.hid hr9
  clear h hr9
  go_enter Tryd.func5, Tryd.ntmps5
  go_wp2
  go_loopw [3, 4, 5] (fun v i _ wr => ∃ (k : Nat) (M : List UInt8), k ≤ l.length ∧ i = .int .i64 k ∧ v = .string ⟨M.toArray⟩ ∧ Hid (M = orL (l.take k)) ∧ Hid (okU l k = true) ∧ Hid (Below w.heap.size w wr)) (fun _ i _ _ => l.length - (intOf i).toNat)
  case atStart => exact ⟨0, [], by omega, rfl, rfl, Lib.hid (by simp [orL]), Lib.hid rfl, Lib.hid (Below.refl _ _)⟩
  case round =>
    obtain ⟨k, M, hk, rfl, rfl, hM, ha, hb⟩ := hrel
    have hMl : M.length ≤ 396361728 := by
      have h1 := orL_len (l.take k) (okU_take ha.out)
      rw [← hM.out, List.length_take] at h1
      omega
    by_cases hlt : k < l.length
    · have hk0 : (0 : Int) ≤ (k : Int) := by omega
      have hk1 : (k : Int) < (l.length : Int) := by omega
      generalize hf : l.getD k noU = f
      obtain ⟨x, vs⟩ := f
      obtain ⟨_, hhl, hxl⟩ := szU_elem hz hlt hf
      have AT := Lib.hid (show orL (l.take (k + 1)) = if k = 0 then qT (x, vs) else orL (l.take k) ++ ([32, 111, 114, 32] ++ qT (x, vs)) by rw [orL_take l k hlt, hf])
      have OT := Lib.hid (show okU l (k + 1) = (okU l k && qOk x vs) by rw [okU_succ, hf])
      have ON := Lib.hid (fun (h : qOk x vs = false) => fmtU_no (okU_not l k _ hlt (by rw [hf]; exact h)))
      obtain ⟨b, off, H, ch, V, cv, rfl, hb1, e0, e1, _, _, _, _, hH, hV⟩ := (HJ.out.step hb.out).at_ hlt hf
      have hr := HR9.out k hlt
      rw [hf] at hr
      have XA := Lib.hid (spec_FormatQuery H V ch cv x vs (by omega) (range_of hr) hxl wr hH hV)
      clear hf hH hV hr
      by_cases c1 : qOk x vs = true
      · have C1 := Lib.hid c1
        have HL := Lib.hid (qT_len c1)
        rw [fmtQ_qT c1] at XA
        generalize hXX : qT (x, vs) = X at HL XA AT
        have n2 : ¬ X = [] := fun e => by have := HL.out.1; rw [e] at this; simp at this
        have n1 : (X == []) = false := by simpa using n2
        have hXl : X.length ≤ 374 := HL.out.2
        clear c1 hXX
        by_cases h0 : k = 0
        · have K0 := Lib.hid h0
          have A0 := Lib.hid (show M = [] by rw [hM.out, h0]; rfl)
          have e1' : ¬ ((0 : Int) < (k : Int)) := by omega
          have e2' : ¬ (0 < k) := by omega
          clear h0
          go_wp2_with fail
          refine XA.out.mono ?_
          rintro e u ⟨rfl, d⟩
          have hB := Lib.hid (step hb.out d)
          clear d
          go_wp2
          go_roundw
          case rel => exact ⟨k + 1, M ++ X, by omega, by go_num, by rw [ba_append], Lib.hid (by rw [AT.out, if_pos K0.out, A0.out]; rfl), Lib.hid (by rw [OT.out, ha.out, C1.out]; rfl), hB⟩
          case measure => simp [intOf]; omega
        · have K0 := Lib.hid h0
          have e1' : ((0 : Int) < (k : Int)) := by omega
          have e2' : (0 < k) := by omega
          clear h0
          go_wp2_with fail
          refine XA.out.mono ?_
          rintro e u ⟨rfl, d⟩
          have hB := Lib.hid (step hb.out d)
          clear d
          go_wp2
          go_roundw
          case rel => exact ⟨k + 1, M ++ [32, 111, 114, 32] ++ X, by omega, by go_num, by rw [show (⟨#[32, 111, 114, 32]⟩ : ByteArray) = ⟨[32, 111, 114, 32].toArray⟩ from rfl, ba_append, ba_append], Lib.hid (by rw [AT.out, if_neg K0.out, hM.out]; simp), Lib.hid (by rw [OT.out, ha.out, C1.out]; rfl), hB⟩
          case measure => simp [intOf]; omega
      · have C1 := Lib.hid (show qOk x vs = false by simpa using c1)
        rw [fmtQ_no C1.out] at XA
        clear c1
        go_wp2_with fail
        refine XA.out.mono ?_
        rintro e u ⟨rfl, d⟩
        have hB := Lib.hid (step hb.out d)
        clear d
        go_wp2
        go_ret
        exact ⟨ret_str (ON.out C1.out).symm, hB.out⟩
    · obtain rfl : k = l.length := by omega
      have E := Lib.hid (show fmtU l = ⟨M.toArray⟩ by rw [fmtU_yes ha.out, hM.out, take_all])
      go_wp2
      go_ret
      exact ⟨ret_str E.out.symm, hb.out⟩

set_option maxRecDepth 100000 in
set_option maxHeartbeats 1000000 in
theorem formatWords_qry (A : Option Addr) (c : Nat) (l : UL) (hz : szU l ≤ 1048576) (w : World) (h : RU w A l) (ht : TabB w) :
    Calls Tryd.prog 24 #[.slice A l.length c, .func (.func 13) #[] #[]] w (WdsOut w (l.map fun a => fmtQ a.1 a.2)) := by
  have hl := szU_len hz
  have hl' : (l.length : Int) ≤ 1048576 := by omega
  obtain ⟨C, hC, hCs, hmk⟩ := makeStrs l.length hl
  have HI := Lib.hid h
  have HT := Lib.hid ht
  have HC := Lib.hid hC
  have HS := Lib.hid hCs
  clear h ht hC hCs
  go_enter Tryd.func24, Tryd.ntmps24
  go_wp2
  go_loopw [6, 7, 13] (fun _ _ i wr => ∃ k : Nat, k ≤ l.length ∧ i = .int .i64 k ∧ (∃ f, wr.rowIs w.heap.size 9 l.length f ∧ ∀ j, j < k → f j = .string (fmtQ (l.getD j noU).1 (l.getD j noU).2)) ∧ Below w.heap.size w wr ∧ w.heap.size < wr.heap.size) (fun _ _ i _ => l.length - (intOf i).toNat)
  case atStart => exact ⟨0, by omega, rfl, ⟨fun _ => .string ⟨#[]⟩, ⟨C, by rw [heap_alloc_new], HS.out, fun i hi => HC.out i hi⟩, fun j hj => by omega⟩, below_alloc _ _, by simp⟩
  case round =>
    obtain ⟨k, hk, rfl, ⟨f, hr, hf⟩, hb, hsz⟩ := hrel
    have HF := Lib.hid hf
    have HR := Lib.hid hr
    clear hf hr
    by_cases hlt : k < l.length
    · have hk0 : (0 : Int) ≤ (k : Int) := by omega
      have hk1 : (k : Int) < (l.length : Int) := by omega
      generalize hf : l.getD k noU = a
      obtain ⟨x, vs⟩ := a
      obtain ⟨_, hhl, hxl⟩ := szU_elem hz hlt hf
      obtain ⟨b, off, H, ch, V, cv, rfl, hb1, e0, e1, _, _, _, _, hH, hV⟩ := (HI.out.step hb).at_ hlt hf
      have ba := below_alloc wr (.cells #[.slice H x.length ch, .slice V vs.length cv] 37)
      have XA := Lib.hid (impl_FormatQuery_r H V ch cv x vs (by omega) hxl _ (hH.step ba) (hV.step ba) (HT.out.step (step hb ba)))
      have HX := Lib.hid (show fmtQ (l.getD k noU).1 (l.getD k noU).2 = fmtQ x vs by rw [hf])
      generalize fmtQ x vs = X at XA HX
      clear hf hH hV ba
      go_wp2_with fail
      refine XA.out.mono ?_
      rintro e u ⟨rfl, d⟩
      have d2 := below_new d
      have hb2 := step hb d2
      have HR2 := Lib.hid (World.rowIs.of_block HR.out (d2.block _ hsz))
      have hsz2 : w.heap.size < u.heap.size := by have := d2.size; omega
      have hz1 := HR2.out.cell hlt
      have hz2 := HR2.out.frozen k
      clear d d2
      go_wp2
      go_roundw
      case rel =>
        refine ⟨k + 1, by omega, by go_num, ⟨_, HR2.out.set k _, fun j hj => ?_⟩, hb2.setCell (Nat.le_refl _) _, by simpa [World.setCell] using hsz2⟩
        by_cases e : j = k
        · subst e; rw [if_pos rfl, HX.out]
        · rw [if_neg e]; exact HF.out j (by omega)
      case measure => simp [intOf]; omega
    · obtain rfl : k = l.length := by omega
      have O := Lib.hid (show WdsOut w (l.map fun a => fmtQ a.1 a.2) (.returned (.slice (some ⟨w.heap.size, 0, none⟩) l.length l.length)) wr by
        refine ⟨by rw [List.length_map], ?_, hb, hsz⟩
        rw [List.length_map]
        exact HR.out.congr fun j hj => by rw [HF.out j hj, getD_map l (fun a => fmtQ a.1 a.2) noU hj])
      go_wp2
      go_ret
      exact O.out

theorem words_emptyU (l : UL) : Lib.containsS ((l.map fun a => fmtQ a.1 a.2).take (l.map fun a => fmtQ a.1 a.2).length) ByteArray.empty = !okU l l.length := by
  rw [take_all, Bool.eq_iff_iff, Lib.containsS_iff]
  rw [List.mem_map]
  constructor
  · rintro ⟨a, ha, he⟩
    rw [Bool.not_eq_true', Bool.eq_false_iff]
    intro h
    have h1 := okU_mem h ha
    rw [fmtQ_qT h1] at he
    have h2 := (qT_len h1).1
    have := congrArg (fun x : ByteArray => x.data.toList) he
    have h3 : qT (a.1, a.2) = [] := this
    rw [h3] at h2
    simp at h2
  · intro h
    rw [Bool.not_eq_true', okU, List.all_eq_false] at h
    obtain ⟨k, hk, h⟩ := h
    have hk : k < l.length := by simpa using hk
    refine ⟨l.getD k noU, ?_, ?_⟩
    · rw [List.getD_eq_getElem?_getD, List.getElem?_eq_getElem hk]
      exact List.getElem_mem hk
    · rw [fmtQ_no (by simpa using h)]
      rfl

set_option maxRecDepth 100000 in
set_option maxHeartbeats 1000000 in
theorem formatAllOf_qry (A : Option Addr) (c : Nat) (l : UL) (hz : szU l ≤ 1048576) (w : World) (h : RU w A l) (ht : TabB w) :
    Calls Tryd.prog 12 #[.slice A l.length c, .string ⟨#[32, 111, 114, 32]⟩, .func (.func 13) #[] #[]] w fun e w' => e = .returned (.string (fmtU l)) ∧ Below w.heap.size w w' := by
  have hl := szU_len hz
  have XW := Lib.hid (formatWords_qry A c l hz w h ht)
  have EC := Lib.hid (words_emptyU l)
  have hm : (l.map fun a => fmtQ a.1 a.2).length = l.length := List.length_map _
  by_cases hok : okU l l.length = true
  · rw [hok] at EC
    have EJ := Lib.hid (show Lib.join ((l.map fun a => fmtQ a.1 a.2).map (·.data.toList)) (⟨#[32, 111, 114, 32]⟩ : ByteArray).data.toList = orL l by
      rw [List.map_map, ← or_join]
      congr 1
      refine List.map_congr_left fun a ha => ?_
      show (fmtQ a.1 a.2).data.toList = qT a
      rw [fmtQ_qT (okU_mem hok ha)])
    have EN := Lib.hid (orL_len l fun a ha => okU_mem hok ha)
    have E := Lib.hid (fmtU_yes hok)
    rw [E.out]
    generalize hws : (l.map fun a => fmtQ a.1 a.2) = ws at XW hm EC EJ
    have hw1 : ws.length ≤ 1048576 := by omega
    clear hws hok h ht E
    generalize orL l = L at EJ EN ⊢
    go_enter Tryd.func12, Tryd.ntmps12
    go_wp2_with fail
    refine XW.out.mono ?_
    rintro e u ⟨rfl, hr, hb, hsz⟩
    have HJ := Lib.hid (Tryd.strings_Join w.heap.size 0 ws.length ws ⟨#[32, 111, 114, 32]⟩ u (words_cells hr) hsz (by omega) (Nat.le_refl _) (by rw [EJ.out]; have := EN.out; omega))
    have HC := Lib.hid (Tryd.slices_Contains_string w.heap.size 0 ws.length ws.length ws ByteArray.empty u (Nat.le_refl _) (by omega) (fun j hj => by rw [Nat.zero_add]; exact hr.cell hj))
    have HB := Lib.hid hb
    rw [EJ.out] at HJ
    rw [EC.out] at HC
    clear hr hb hsz hm
    go_wp2_with fail
    refine HC.out.mono ?_
    rintro e u2 ⟨rfl, rfl⟩
    go_wp2_with fail
    refine HJ.out.mono ?_
    rintro e u3 ⟨rfl, d⟩
    go_wp2
    go_ret
    exact ⟨rfl, step HB.out d⟩
  · have hok' : okU l l.length = false := by simpa using hok
    rw [hok'] at EC
    have E := Lib.hid (fmtU_no hok')
    rw [E.out]
    generalize hws : (l.map fun a => fmtQ a.1 a.2) = ws at XW hm EC
    have hw1 : ws.length ≤ 1048576 := by omega
    clear hws hok hok' h ht E
    go_enter Tryd.func12, Tryd.ntmps12
    go_wp2_with fail
    refine XW.out.mono ?_
    rintro e u ⟨rfl, hr, hb, hsz⟩
    have HC := Lib.hid (Tryd.slices_Contains_string w.heap.size 0 ws.length ws.length ws ByteArray.empty u (Nat.le_refl _) (by omega) (fun j hj => by rw [Nat.zero_add]; exact hr.cell hj))
    have HB := Lib.hid hb
    rw [EC.out] at HC
    clear hr hb hsz hm
    go_wp2_with fail
    refine HC.out.mono ?_
    rintro e u2 ⟨rfl, rfl⟩
    go_wp2
    go_ret
    exact ⟨rfl, HB.out⟩

set_option maxRecDepth 100000 in
set_option maxHeartbeats 1000000 in
theorem impl_FormatUnion_r (A : Option Addr) (c : Nat) (l : UL) (hz : szU l ≤ 1048576) (w : World) (h : RU w A l) (ht : TabB w) :
    Calls Tryd.prog 7 #[.slice A l.length c] w fun e w' => e = .returned (.string (fmtU l)) ∧ Below w.heap.size w w' := by
  have hl := szU_len hz
  have XA := Lib.hid (formatAllOf_qry A c l hz w h ht)
  clear h ht
  go_enter Tryd.func7, Tryd.ntmps7
  go_wp2_with fail
  refine XA.out.mono ?_
  rintro e u ⟨rfl, d⟩
  go_wp2
  go_ret
  exact ⟨rfl, d⟩
end Go.Proofs.YtimlpdcambmcjaaDoor
