/- The text of a query, and what impl.FormatQuery answers. Conditions: none beyond each theorem's own. -/
import Derived.Test.YthhoccpdgnmhcabDoorFmtA
import Derived.Test.YthhoccpdgnmhcabDoorQH
namespace Go.Proofs.YthhoccpdgnmhcabDoor
open Go.ChangeShapes Go.WideShapes Go.ChangeAt Go.RowKit Go.Sort
open Go.Proofs.YthhoccpdgnmhcabDoor.atom
set_option linter.unusedVariables false
set_option linter.unusedSimpArgs false

/-- The text of an atom that has one. -/
def atL (f : Int × List Int) : List UInt8 := [114, dg f.1, 40] ++ commaT f.2 ++ [41]
/-- The atoms' texts, the word between them. -/
def andL : FL → List UInt8
  | [] => []
  | [f] => atL f
  | f :: g :: r => atL f ++ ([32, 97, 110, 100, 32] ++ andL (g :: r))
theorem andL_snoc : ∀ (l : FL) (f : Int × List Int), l ≠ [] → andL (l ++ [f]) = andL l ++ ([32, 97, 110, 100, 32] ++ atL f)
  | [], x, h => absurd rfl h
  | [y], x, _ => rfl
  | y :: z :: r, x, _ => by
    have ih := andL_snoc (z :: r) x (by simp)
    simp only [List.cons_append] at ih ⊢
    rw [andL, andL, ih]
    simp
theorem andL_take (l : FL) (k : Nat) (hk : k < l.length) {f : Int × List Int} (hf : l.getD k (0, []) = f) : andL (l.take (k + 1)) = if k = 0 then atL f else andL (l.take k) ++ ([32, 97, 110, 100, 32] ++ atL f) := by
  have e : l[k] = f := by rw [← hf]; simp [List.getD_eq_getElem?_getD, hk]
  rw [List.take_succ_eq_append_getElem hk, e]
  by_cases h0 : k = 0
  · subst h0; simp [andL]
  · rw [if_neg h0, andL_snoc]
    intro h
    have := congrArg List.length h
    rw [List.length_take, List.length_nil] at this
    omega
theorem and_join : ∀ l : FL, Lib.join (l.map atL) [32, 97, 110, 100, 32] = andL l
  | [] => rfl
  | [x] => by simp [Lib.join_one, andL]
  | x :: y :: r => by
    have ih := and_join (y :: r)
    simp only [List.map_cons] at ih ⊢
    rw [Lib.join_cons] at ih ⊢
    rw [andL, ← ih]
    simp [Lib.joinTail]
/-- Has every atom a text? -/
def okA (l : FL) : Bool := l.all fun f => fmtOkA f.1 f.2
theorem okA_take (l : FL) (k : Nat) (hk : k < l.length) {r : Int} {xs : List Int} (hf : l.getD k (0, []) = (r, xs)) : okA (l.take (k + 1)) = (okA (l.take k) && fmtOkA r xs) := by
  unfold okA
  rw [List.take_succ_eq_append_getElem hk, List.all_append]
  have : l[k] = l.getD k (0, []) := by simp [List.getD_eq_getElem?_getD, hk]
  rw [this, hf]
  simp
theorem okA_not (l : FL) (k : Nat) (hk : k < l.length) {r : Int} {xs : List Int} (hf : l.getD k (0, []) = (r, xs)) (h : fmtOkA r xs = false) : okA l = false := by
  unfold okA
  rw [List.all_eq_false]
  refine ⟨l[k], List.getElem_mem _, ?_⟩
  have : l.getD k (0, []) = l[k] := by simp [List.getD_eq_getElem?_getD, hk]
  rw [← this, hf]
  simp [h]
theorem atL_len {r : Int} {xs : List Int} (h : fmtOkA r xs = true) : 4 ≤ (atL (r, xs)).length ∧ (atL (r, xs)).length ≤ 70 := by
  simp only [fmtOkA, Bool.and_eq_true] at h
  have h3 : 1 ≤ (xs.length : Int) ∧ (xs.length : Int) ≤ 3 := by simpa [inB] using h.1.2
  have := commaT_len xs (allR_len (allR_of h.2))
  simp only [atL, List.length_append, List.length_cons, List.length_nil]
  omega
theorem andL_len : ∀ l : FL, okA l = true → (andL l).length ≤ 75 * l.length
  | [], _ => by simp [andL]
  | [(r0, xs0)], h => by
    have : fmtOkA r0 xs0 = true := by simpa [okA] using h
    have := atL_len this
    simp only [andL, List.length_cons, List.length_nil]
    omega
  | (r0, xs0) :: g :: r, h => by
    have h1 : fmtOkA r0 xs0 = true ∧ okA (g :: r) = true := by simpa [okA] using h
    have h2 := atL_len h1.1
    have h3 := andL_len (g :: r) h1.2
    simp only [andL, List.length_append, List.length_cons, List.length_nil] at *
    omega
theorem fmtA_at {r : Int} {xs : List Int} (h : fmtOkA r xs = true) : fmtA r xs = ⟨(atL (r, xs)).toArray⟩ := fmtA_yes h

/-- The text of a head. -/
def headL (hs : List Int) : List UInt8 := if hs.length = 0 then [121, 101, 115] else commaT hs
theorem head_allR {hs : List Int} {l : FL} (h : inAll (wl 10 17 (terms l)) hs = true) : allB 0 17 hs = true := by
  unfold inAll at h
  unfold allB
  rw [List.all_eq_true] at h ⊢
  intro x hx
  have h1 : x ∈ wl 10 17 (terms l) := by simpa using h x hx
  have := ((wl_mem 10 17 (terms l) x).1 h1).2
  simp [inB] at this ⊢
  omega
theorem headL_len {hs : List Int} (h3 : hs.length ≤ 3) (h : allR hs) : (headL hs).length ≤ 70 := by
  unfold headL
  split
  · simp
  · have := commaT_len hs (allR_len h); omega
/-- Has the query a text? -/
def qOk (hs : List Int) (l : FL) : Bool := inB (l.length : Int) 1 4 && headB hs l && okA l
/-- The text of a query. -/
def fmtQ (hs : List Int) (l : FL) : ByteArray := if qOk hs l = true then ⟨(headL hs ++ [32, 105, 102, 32] ++ andL l).toArray⟩ else ⟨#[]⟩
theorem fmtQ_yes {hs : List Int} {l : FL} (h : qOk hs l = true) : fmtQ hs l = ⟨(headL hs ++ [32, 105, 102, 32] ++ andL l).toArray⟩ := if_pos h
theorem fmtQ_no {hs : List Int} {l : FL} (h : qOk hs l = false) : fmtQ hs l = ⟨#[]⟩ := if_neg (by simp [h])

set_option maxRecDepth 100000 in
theorem formatHead_any (H : Option Addr) (ch : Nat) (hs : List Int) (hl : hs.length ≤ 3) (hd : allR hs) (w : World) (h : RI w H hs) (ht : Tab w) :
    Calls Tryd.prog 57 #[.slice H hs.length ch] w fun e w' => e = .returned (.string ⟨(headL hs).toArray⟩) ∧ Below w.heap.size w w' := by
  have XL := Lib.hid (formatList_term H ch hs hl hd w h ht)
  clear h ht hd
  by_cases h0 : hs.length = 0
  · have E := Lib.hid (show headL hs = [121, 101, 115] from if_pos h0)
    rw [E.out]
    have d0 : ((hs.length : Int) == 0) = true := by simp [h0]
    go_enter Tryd.func57, Tryd.ntmps57
    go_wp2
    go_ret
    exact ⟨rfl, Below.refl _ _⟩
  · have E := Lib.hid (show headL hs = commaT hs from if_neg h0)
    rw [E.out]
    have d0 : ((hs.length : Int) == 0) = false := beq_false_of_ne (by omega)
    go_enter Tryd.func57, Tryd.ntmps57
    go_wp2_with fail
    refine XL.out.mono ?_
    rintro e w1 ⟨rfl, d⟩
    have D := Lib.hid d
    clear d
    go_wp2
    go_ret
    exact ⟨rfl, D.out⟩

set_option maxRecDepth 100000 in
set_option maxHeartbeats 2000000 in
theorem impl_FormatQuery (H A : Option Addr) (ch c : Nat) (hs : List Int) (l : FL) (hh : hs.length ≤ 1048576) (hz : szF l ≤ 1048576) (w : World) (h : RI w H hs) (h' : RF w A l) (ht : Tab w) :
    Calls Tryd.prog 27 #[.agg #[.slice H hs.length ch, .slice A l.length c]] w fun e w' => e = .returned (.string (fmtQ hs l)) ∧ Below w.heap.size w w' := by
  have hl := szF_len hz
  have hl' : (l.length : Int) ≤ 1048576 := by omega
  have B0 := Lib.hid (below_alloc w (.cells #[.slice H hs.length ch, .slice A l.length c] 53))
  have X0 := Lib.hid (Box.new w #[.slice H hs.length ch, .slice A l.length c] 53)
  have XH := Lib.hid (isHead_any H A ch c hs l hh hz _ (h.step B0.out) (h'.step B0.out))
  have HH := Lib.hid h
  have HF := Lib.hid h'
  have HT := Lib.hid (Lib.tabBelow_of_tabIs ht)
  clear h h' ht
  by_cases c1 : inB (l.length : Int) 1 4 = true
  · have C1 := Lib.hid c1
    have hn : 1 ≤ (l.length : Int) ∧ (l.length : Int) ≤ 4 := by simpa [inB] using c1
    by_cases c2 : headB hs l = true
    · have C2 := Lib.hid c2
      have h3 : hs.length ≤ 3 ∧ inAll (wl 10 17 (terms l)) hs = true := by simpa [headB] using c2
      have hl3 := h3.1
      have HR := Lib.hid (allR_of (head_allR h3.2))
      have QY := Lib.hid fun (ho : okA l = true) => fmtQ_yes (show qOk hs l = true by unfold qOk; rw [c1, c2, ho]; rfl)
      have QN := Lib.hid fun (ho : okA l = false) => fmtQ_no (show qOk hs l = false by unfold qOk; rw [ho]; simp)
      obtain ⟨C, hC, hCs, hmk⟩ := makeStrs l.length (by omega)
      have HC := Lib.hid hC
      have HS := Lib.hid hCs
      clear c1 c2 h3 hC hCs
      go_enter Tryd.func27, Tryd.ntmps27
      go_wp2_with fail
      refine (isBetween_any (l.length : Int) 1 4 _).mono ?_
      rintro e w1 ⟨he, rfl⟩
      rw [C1.out] at he
      subst he
      go_wp2_with fail
      refine XH.out.mono ?_
      rintro e w1 ⟨he, d⟩
      rw [C2.out] at he
      subst he
      have B1 := Lib.hid (step B0.out d)
      have X1 := Lib.hid (X0.out.step d)
      have x1 := X1.out.cell 1
      simp only [List.getElem?_toArray, List.getElem?_cons_zero, List.getElem?_cons_succ] at x1
      have lx1 := X1.out.lt
      clear d
      go_wp2
      go_loopw [4, 5, 23] (fun _ _ i wr => ∃ k : Nat, k ≤ l.length ∧ i = .int .i64 k ∧ (∃ f, Hid (wr.rowIs w1.heap.size 9 l.length f) ∧ Hid (∀ j, j < k → f j = .string ⟨(atL (l.getD j (0, []))).toArray⟩)) ∧ Hid (okA (l.take k) = true) ∧ Hid (Below w1.heap.size w1 wr) ∧ Hid (w1.heap.size < wr.heap.size)) (fun _ _ i _ => l.length - (intOf i).toNat)
      case atStart => exact ⟨0, by omega, rfl, ⟨fun _ => .string ⟨#[]⟩, Lib.hid ⟨C, by rw [heap_alloc_new], HS.out, fun i hi => HC.out i hi⟩, Lib.hid fun j hj => by omega⟩, Lib.hid rfl, Lib.hid (below_alloc _ _), Lib.hid (by simp)⟩
      case round =>
        obtain ⟨k, hk, rfl, ⟨f, hr, hf⟩, ha, hb, hs2⟩ := hrel
        clear x1
        have hk0 : (0 : Int) ≤ (k : Int) := by omega
        by_cases hlt : k < l.length
        · generalize hg : l.getD k (0, []) = g
          obtain ⟨r, xs⟩ := g
          have hxl : xs.length ≤ 1048576 := by have := szF_elem hz hlt; rw [hg] at this; exact this
          have HG := Lib.hid hg
          have OT := Lib.hid (okA_take l k hlt hg)
          have ON := Lib.hid fun (h : fmtOkA r xs = false) => okA_not l k hlt hg h
          have hk1 : (k : Int) < (l.length : Int) := by omega
          have HBW := Lib.hid (step B1.out hb.out)
          obtain ⟨b, off, B, c3, rfl, hbl, e0, e1, _, hcm, hJ⟩ := HF.out.at_ hlt hg
          have q0 := (HBW.out.cell (p := ⟨b, off + k * 2, none⟩) hbl).trans e0
          have q1 := (HBW.out.cell (p := ⟨b, off + k * 2 + 1, none⟩) hbl).trans e1
          have BA := below_alloc wr (.cells #[.int .i64 r, .slice B xs.length c3] 42)
          have XA := Lib.hid (impl_FormatAtom r xs B c3 hxl _ (hJ.step (step HBW.out BA)) (HT.out _ (step HBW.out BA)))
          have HBA := Lib.hid BA
          clear hg e0 e1 hJ BA
          go_wp2_with fail
          refine XA.out.mono ?_
          rintro e w2 ⟨rfl, d⟩
          have HB2 := Lib.hid (step hb.out (step HBA.out d))
          have HR2 := Lib.hid (World.rowIs.of_block hr.out ((step HBA.out d).block _ hs2.out))
          have hz1 := HR2.out.cell hlt
          have hz2 := HR2.out.frozen k
          have HS2 := Lib.hid (show w1.heap.size < w2.heap.size by have := hs2.out; have := (step HBA.out d).size; omega)
          clear d q0 q1
          by_cases c3 : fmtOkA r xs = true
          · have C3 := Lib.hid c3
            have HL := Lib.hid (atL_len c3)
            rw [fmtA_at c3]
            generalize hX : atL (r, xs) = X at HL
            have EX := Lib.hid hX
            have n2 : ¬ X = [] := fun e => by have := HL.out.1; rw [e] at this; simp at this
            have n1 : (X == []) = false := by simpa using n2
            clear c3 hX
            go_wp2
            go_roundw
            case rel =>
              refine ⟨k + 1, by omega, by go_num, ⟨_, Lib.hid (HR2.out.set k _), Lib.hid fun j hj => ?_⟩, Lib.hid (by rw [OT.out, ha.out, C3.out]; rfl), Lib.hid (HB2.out.setCell (Nat.le_refl _) _), Lib.hid (by rw [set_size]; exact HS2.out)⟩
              by_cases e : j = k
              · subst e; rw [if_pos rfl, HG.out, EX.out]
              · rw [if_neg e]; exact hf.out j (by omega)
            case measure => simp [intOf]; omega
          · have C3 := Lib.hid (show fmtOkA r xs = false by simpa using c3)
            rw [fmtA_no C3.out]
            clear c3
            go_wp2
            go_ret
            exact ⟨ret_str (QN.out (ON.out C3.out)).symm, Below.setCell (step B1.out HB2.out) (by have := B1.out.size; (try simp); omega) _⟩
        · obtain rfl : k = l.length := by omega
          have HA := Lib.hid (show okA l = true by have := ha.out; rwa [take_all] at this)
          have HBW := Lib.hid (step B1.out hb.out)
          have X2 := X1.out.step hb.out
          have x0 := X2.cell 0
          simp only [List.getElem?_toArray, List.getElem?_cons_zero, List.getElem?_cons_succ] at x0
          have XF := Lib.hid (formatHead_any H ch hs hl3 HR.out wr (HH.out.step HBW.out) (HT.out _ HBW.out))
          have hlen : (l.map fun g => (⟨(atL g).toArray⟩ : ByteArray)).length = l.length := by simp
          have hmap : (l.map fun g => (⟨(atL g).toArray⟩ : ByteArray)).map (·.data.toList) = l.map atL := by simp
          have hal := andL_len l HA.out
          have XJ := Lib.hid fun (W : World) (hW : Below wr.heap.size wr W) => (show Calls Tryd.prog 58 #[.slice (some ⟨w1.heap.size, 0, none⟩) l.length l.length, .string ⟨#[32, 97, 110, 100, 32]⟩] W fun e w' => e = .returned (.string ⟨(andL l).toArray⟩) ∧ Below W.heap.size W w' by
            have hj := Tryd.strings_Join w1.heap.size 0 l.length (l.map fun g => ⟨(atL g).toArray⟩) ⟨#[32, 97, 110, 100, 32]⟩ W (fun j x hx => by
              have hj : j < l.length := by rw [← hlen]; exact (List.getElem?_eq_some_iff.1 hx).1
              rw [Nat.zero_add, hW.cell (p := ⟨w1.heap.size, j, none⟩) hs2.out, hr.out.cell hj, hf.out j hj]
              rw [List.getElem?_map, List.getElem?_eq_getElem hj] at hx
              injection hx with hx
              subst hx
              simp [List.getD_eq_getElem?_getD, hj]) (by have := hs2.out; have := hW.size; omega) (by rw [hlen]; omega) (by rw [hlen]; exact Nat.le_refl _) (by rw [hmap, show (⟨#[32, 97, 110, 100, 32]⟩ : ByteArray).data.toList = [32, 97, 110, 100, 32] from rfl, and_join]; omega)
            rw [hmap, hlen, show (⟨#[32, 97, 110, 100, 32]⟩ : ByteArray).data.toList = [32, 97, 110, 100, 32] from rfl, and_join] at hj
            exact hj)
          have HLen := Lib.hid (headL_len hl3 HR.out)
          have EQ := Lib.hid (QY.out HA.out)
          have hal2 : (andL l).length ≤ 300 := by omega
          have hhl : (headL hs).length ≤ 70 := HLen.out
          generalize andL l = M at XJ EQ hal2
          generalize headL hs = P at XF EQ hhl
          clear hlen hmap hal X2 HLen
          go_wp2_with fail
          refine XF.out.mono ?_
          rintro e w2 ⟨rfl, d⟩
          have D2 := Lib.hid d
          clear d
          go_wp2_with fail
          refine (XJ.out _ D2.out).mono ?_
          rintro e w3 ⟨rfl, d⟩
          have D3 := Lib.hid (step HBW.out (step D2.out d))
          clear d
          go_wp2
          go_ret
          refine ⟨ret_str ?_, D3.out⟩
          rw [EQ.out, show (⟨#[32, 105, 102, 32]⟩ : ByteArray) = ⟨[32, 105, 102, 32].toArray⟩ from rfl, ba_append, ba_append]
    · have C2 := Lib.hid (show headB hs l = false by simpa using c2)
      have E := Lib.hid (fmtQ_no (show qOk hs l = false by unfold qOk; rw [C2.out]; simp))
      rw [E.out]
      clear c1 c2
      go_enter Tryd.func27, Tryd.ntmps27
      go_wp2_with fail
      refine (isBetween_any (l.length : Int) 1 4 _).mono ?_
      rintro e w1 ⟨he, rfl⟩
      rw [C1.out] at he
      subst he
      go_wp2_with fail
      refine XH.out.mono ?_
      rintro e w1 ⟨he, d⟩
      rw [C2.out] at he
      subst he
      have B1 := Lib.hid (step B0.out d)
      clear d
      go_wp2
      go_ret
      exact ⟨rfl, B1.out⟩
  · have C1 := Lib.hid (show inB (l.length : Int) 1 4 = false by simpa using c1)
    have E := Lib.hid (fmtQ_no (show qOk hs l = false by unfold qOk; rw [C1.out]; simp))
    rw [E.out]
    clear c1
    go_enter Tryd.func27, Tryd.ntmps27
    go_wp2_with fail
    refine (isBetween_any (l.length : Int) 1 4 _).mono ?_
    rintro e w1 ⟨he, rfl⟩
    rw [C1.out] at he
    subst he
    go_wp2
    go_ret
    exact ⟨rfl, B0.out⟩
end Go.Proofs.YthhoccpdgnmhcabDoor
