/- The text of a query, and what impl.FormatQuery answers. Conditions: none beyond each theorem's own. -/
import Derived.Test.YtimlpdcambmcjaaDoorFmtA
import Derived.Test.YtimlpdcambmcjaaDoorQH
import Derived.Lib.SlicesS
namespace Go.Proofs.YtimlpdcambmcjaaDoor
open Go.ChangeShapes Go.WideShapes Go.ChangeAt Go.RowKit Go.Sort
open Go.Proofs.YtimlpdcambmcjaaDoor.atom
set_option linter.unusedVariables false
set_option linter.unusedSimpArgs false

/-- The text of an atom that has one. -/
def atL (f : Int × List Int) : List UInt8 := [114, dg f.1, 40] ++ commaT f.2 ++ [41]
/-- The atoms' texts, the word between them. -/
def andL : FL → List UInt8
  | [] => []
  | [f] => atL f
  | f :: g :: r => atL f ++ ([32, 97, 110, 100, 32] ++ andL (g :: r))
theorem andL_snoc : ∀ (l : FL) (f : Int × List Int), l ≠ [] → andL (l ++ [f]) = andL l ++ ([32, 97, 110, 100, 32] ++ atL f)
  | [], x, h => absurd rfl h
  | [y], x, _ => rfl
  | y :: z :: r, x, _ => by
    have ih := andL_snoc (z :: r) x (by simp)
    simp only [List.cons_append] at ih ⊢
    rw [andL, andL, ih]
    simp
theorem andL_take (l : FL) (k : Nat) (hk : k < l.length) {f : Int × List Int} (hf : l.getD k (0, []) = f) : andL (l.take (k + 1)) = if k = 0 then atL f else andL (l.take k) ++ ([32, 97, 110, 100, 32] ++ atL f) := by
  have e : l[k] = f := by rw [← hf]; simp [List.getD_eq_getElem?_getD, hk]
  rw [List.take_succ_eq_append_getElem hk, e]
  by_cases h0 : k = 0
  · subst h0; simp [andL]
  · rw [if_neg h0, andL_snoc]
    intro h
    have := congrArg List.length h
    rw [List.length_take, List.length_nil] at this
    omega
theorem and_join : ∀ l : FL, Lib.join (l.map atL) [32, 97, 110, 100, 32] = andL l
  | [] => rfl
  | [x] => by simp [Lib.join_one, andL]
  | x :: y :: r => by
    have ih := and_join (y :: r)
    simp only [List.map_cons] at ih ⊢
    rw [Lib.join_cons] at ih ⊢
    rw [andL, ← ih]
    simp [Lib.joinTail]
/-- Has every atom a text? -/
def okA (l : FL) : Bool := l.all fun f => fmtOkA f.1 f.2
theorem okA_take (l : FL) (k : Nat) (hk : k < l.length) {r : Int} {xs : List Int} (hf : l.getD k (0, []) = (r, xs)) : okA (l.take (k + 1)) = (okA (l.take k) && fmtOkA r xs) := by
  unfold okA
  rw [List.take_succ_eq_append_getElem hk, List.all_append]
  have : l[k] = l.getD k (0, []) := by simp [List.getD_eq_getElem?_getD, hk]
  rw [this, hf]
  simp
theorem okA_not (l : FL) (k : Nat) (hk : k < l.length) {r : Int} {xs : List Int} (hf : l.getD k (0, []) = (r, xs)) (h : fmtOkA r xs = false) : okA l = false := by
  unfold okA
  rw [List.all_eq_false]
  refine ⟨l[k], List.getElem_mem _, ?_⟩
  have : l.getD k (0, []) = l[k] := by simp [List.getD_eq_getElem?_getD, hk]
  rw [← this, hf]
  simp [h]
theorem atL_len {r : Int} {xs : List Int} (h : fmtOkA r xs = true) : 4 ≤ (atL (r, xs)).length ∧ (atL (r, xs)).length ≤ 70 := by
  simp only [fmtOkA, Bool.and_eq_true] at h
  have h3 : 1 ≤ (xs.length : Int) ∧ (xs.length : Int) ≤ 3 := by simpa [inB] using h.1.2
  have := commaT_len xs (allR_len (allR_of h.2))
  simp only [atL, List.length_append, List.length_cons, List.length_nil]
  omega
theorem andL_len : ∀ l : FL, okA l = true → (andL l).length ≤ 75 * l.length
  | [], _ => by simp [andL]
  | [(r0, xs0)], h => by
    have : fmtOkA r0 xs0 = true := by simpa [okA] using h
    have := atL_len this
    simp only [andL, List.length_cons, List.length_nil]
    omega
  | (r0, xs0) :: g :: r, h => by
    have h1 : fmtOkA r0 xs0 = true ∧ okA (g :: r) = true := by simpa [okA] using h
    have h2 := atL_len h1.1
    have h3 := andL_len (g :: r) h1.2
    simp only [andL, List.length_append, List.length_cons, List.length_nil] at *
    omega
theorem fmtA_at {r : Int} {xs : List Int} (h : fmtOkA r xs = true) : fmtA r xs = ⟨(atL (r, xs)).toArray⟩ := fmtA_yes h

/-- The text of a head. -/
def headL (hs : List Int) : List UInt8 := if hs.length = 0 then [121, 101, 115] else commaT hs
theorem head_allR {hs : List Int} {l : FL} (h : inAll (wl 10 17 (terms l)) hs = true) : allB 0 17 hs = true := by
  unfold inAll at h
  unfold allB
  rw [List.all_eq_true] at h ⊢
  intro x hx
  have h1 : x ∈ wl 10 17 (terms l) := by simpa using h x hx
  have := ((wl_mem 10 17 (terms l) x).1 h1).2
  simp [inB] at this ⊢
  omega
theorem headL_len {hs : List Int} (h3 : hs.length ≤ 3) (h : allR hs) : (headL hs).length ≤ 70 := by
  unfold headL
  split
  · simp
  · have := commaT_len hs (allR_len h); omega
/-- Has the query a text? -/
def qOk (hs : List Int) (l : FL) : Bool := inB (l.length : Int) 1 4 && headB hs l && okA l
/-- The text of a query. -/
def fmtQ (hs : List Int) (l : FL) : ByteArray := if qOk hs l = true then ⟨(headL hs ++ [32, 105, 102, 32] ++ andL l).toArray⟩ else ⟨#[]⟩
theorem fmtQ_yes {hs : List Int} {l : FL} (h : qOk hs l = true) : fmtQ hs l = ⟨(headL hs ++ [32, 105, 102, 32] ++ andL l).toArray⟩ := if_pos h
theorem fmtQ_no {hs : List Int} {l : FL} (h : qOk hs l = false) : fmtQ hs l = ⟨#[]⟩ := if_neg (by simp [h])

set_option maxRecDepth 100000 in
set_option maxHeartbeats 400000 in
theorem formatListOr_yes (H : Option Addr) (ch : Nat) (hs : List Int) (hl : hs.length ≤ 3) (hd : allR hs) (w : World) (h : RI w H hs) (ht : Tab w) :
    Calls Tryd.prog 31 #[.string ⟨#[121, 101, 115]⟩, .slice H hs.length ch, .func (.func 32) #[] #[]] w fun e w' => e = .returned (.string ⟨(headL hs).toArray⟩) ∧ Below w.heap.size w w' := by
  have XL := Lib.hid (formatList_term H ch hs hl hd w h ht)
  clear h ht hd
  by_cases h0 : hs.length = 0
  · have ET := Lib.hid (show headL hs = [121, 101, 115] from if_pos h0)
    have d0 : ((hs.length : Int) == 0) = true := by simp [h0]
    go_enter Tryd.func31, Tryd.ntmps31
    go_wp2
    go_ret
    exact ⟨ret_str (by rw [ET.out]), Below.refl _ _⟩
  · have ET := Lib.hid (show headL hs = commaT hs from if_neg h0)
    have d0 : ((hs.length : Int) == 0) = false := beq_false_of_ne (by omega)
    have d1 : ¬ (hs.length : Int) = 0 := by omega
    go_enter Tryd.func31, Tryd.ntmps31
    go_wp2_with fail
    refine XL.out.mono ?_
    rintro e u ⟨rfl, d⟩
    go_wp2
    go_ret
    exact ⟨ret_str (by rw [ET.out]), d⟩

set_option maxRecDepth 100000 in
set_option maxHeartbeats 1000000 in
theorem formatWords_atm (A : Option Addr) (c : Nat) (l : FL) (hz : szF l ≤ 1048576) (w : World) (h : RF w A l) (ht : TabB w) :
    Calls Tryd.prog 48 #[.slice A l.length c, .func (.func 30) #[] #[]] w (WdsOut w (l.map fun a => fmtA a.1 a.2)) := by
  have hl := szF_len hz
  have hl' : (l.length : Int) ≤ 1048576 := by omega
  obtain ⟨C, hC, hCs, hmk⟩ := makeStrs l.length hl
  have HI := Lib.hid h
  have HT := Lib.hid ht
  have HC := Lib.hid hC
  have HS := Lib.hid hCs
  clear h ht hC hCs
  go_enter Tryd.func48, Tryd.ntmps48
  go_wp2
  go_loopw [6, 7, 13] (fun _ _ i wr => ∃ k : Nat, k ≤ l.length ∧ i = .int .i64 k ∧ (∃ f, wr.rowIs w.heap.size 9 l.length f ∧ ∀ j, j < k → f j = .string (fmtA (l.getD j (0, [])).1 (l.getD j (0, [])).2)) ∧ Below w.heap.size w wr ∧ w.heap.size < wr.heap.size) (fun _ _ i _ => l.length - (intOf i).toNat)
  case atStart => exact ⟨0, by omega, rfl, ⟨fun _ => .string ⟨#[]⟩, ⟨C, by rw [heap_alloc_new], HS.out, fun i hi => HC.out i hi⟩, fun j hj => by omega⟩, below_alloc _ _, by simp⟩
  case round =>
    obtain ⟨k, hk, rfl, ⟨f, hr, hf⟩, hb, hsz⟩ := hrel
    have HF := Lib.hid hf
    have HR := Lib.hid hr
    clear hf hr
    by_cases hlt : k < l.length
    · have hk0 : (0 : Int) ≤ (k : Int) := by omega
      have hk1 : (k : Int) < (l.length : Int) := by omega
      generalize hf : l.getD k (0, []) = a
      obtain ⟨x, vs⟩ := a
      have hxl : vs.length ≤ 1048576 := by have := szF_elem hz hlt; rw [hf] at this; exact this
      obtain ⟨b, off, V, cv, rfl, hb1, e0, e1, _, _, hV⟩ := (HI.out.step hb).at_ hlt hf
      have ba := below_alloc wr (.cells #[.int .i64 x, .slice V vs.length cv] 49)
      have XA := Lib.hid (impl_FormatAtom_r x vs V cv hxl _ (hV.step ba) (HT.out.step (step hb ba)))
      have HX := Lib.hid (show fmtA (l.getD k (0, [])).1 (l.getD k (0, [])).2 = fmtA x vs by rw [hf])
      generalize fmtA x vs = X at XA HX
      clear hf hV ba
      go_wp2_with fail
      refine XA.out.mono ?_
      rintro e u ⟨rfl, d⟩
      have d2 := below_new d
      have hb2 := step hb d2
      have HR2 := Lib.hid (World.rowIs.of_block HR.out (d2.block _ hsz))
      have hsz2 : w.heap.size < u.heap.size := by have := d2.size; omega
      have hz1 := HR2.out.cell hlt
      have hz2 := HR2.out.frozen k
      clear d d2
      go_wp2
      go_roundw
      case rel =>
        refine ⟨k + 1, by omega, by go_num, ⟨_, HR2.out.set k _, fun j hj => ?_⟩, hb2.setCell (Nat.le_refl _) _, by simpa [World.setCell] using hsz2⟩
        by_cases e : j = k
        · subst e; rw [if_pos rfl, HX.out]
        · rw [if_neg e]; exact HF.out j (by omega)
      case measure => simp [intOf]; omega
    · obtain rfl : k = l.length := by omega
      have O := Lib.hid (show WdsOut w (l.map fun a => fmtA a.1 a.2) (.returned (.slice (some ⟨w.heap.size, 0, none⟩) l.length l.length)) wr by
        refine ⟨by rw [List.length_map], ?_, hb, hsz⟩
        rw [List.length_map]
        exact HR.out.congr fun j hj => by rw [HF.out j hj, getD_map l (fun a => fmtA a.1 a.2) (0, []) hj])
      go_wp2
      go_ret
      exact O.out

theorem okA_mem {l : FL} (h : okA l = true) {a : Int × List Int} (ha : a ∈ l) : fmtOkA a.1 a.2 = true := List.all_eq_true.1 h a ha
theorem words_emptyA (l : FL) : Lib.containsS ((l.map fun a => fmtA a.1 a.2).take (l.map fun a => fmtA a.1 a.2).length) ByteArray.empty = !okA l := by
  rw [take_all, Bool.eq_iff_iff, Lib.containsS_iff]
  rw [List.mem_map]
  constructor
  · rintro ⟨a, ha, he⟩
    rw [Bool.not_eq_true', Bool.eq_false_iff]
    intro h
    have h1 := okA_mem h ha
    rw [fmtA_at h1] at he
    have h2 := (atL_len h1).1
    have := congrArg (fun x : ByteArray => x.data.toList) he
    have h3 : atL (a.1, a.2) = [] := this
    rw [h3] at h2
    simp at h2
  · intro h
    rw [Bool.not_eq_true', okA, List.all_eq_false] at h
    obtain ⟨a, ha, h⟩ := h
    exact ⟨a, ha, by rw [fmtA_no (by simpa using h)]; rfl⟩
/-- All texts, or none. -/
def allA (l : FL) : ByteArray := if okA l = true then ⟨(andL l).toArray⟩ else ⟨#[]⟩

set_option maxRecDepth 100000 in
set_option maxHeartbeats 1000000 in
theorem formatAllOf_atm (A : Option Addr) (c : Nat) (l : FL) (hz : szF l ≤ 1048576) (w : World) (h : RF w A l) (ht : TabB w) :
    Calls Tryd.prog 29 #[.slice A l.length c, .string ⟨#[32, 97, 110, 100, 32]⟩, .func (.func 30) #[] #[]] w fun e w' => e = .returned (.string (allA l)) ∧ Below w.heap.size w w' := by
  have hl := szF_len hz
  have XW := Lib.hid (formatWords_atm A c l hz w h ht)
  have EC := Lib.hid (words_emptyA l)
  have hm : (l.map fun a => fmtA a.1 a.2).length = l.length := List.length_map _
  by_cases hok : okA l = true
  · rw [hok] at EC
    have EJ := Lib.hid (show Lib.join ((l.map fun a => fmtA a.1 a.2).map (·.data.toList)) (⟨#[32, 97, 110, 100, 32]⟩ : ByteArray).data.toList = andL l by
      rw [List.map_map, show (⟨#[32, 97, 110, 100, 32]⟩ : ByteArray).data.toList = [32, 97, 110, 100, 32] from rfl, ← and_join]
      congr 1
      refine List.map_congr_left fun a ha => ?_
      show (fmtA a.1 a.2).data.toList = atL a
      rw [fmtA_at (okA_mem hok ha)])
    have EN := Lib.hid (andL_len l hok)
    have E := Lib.hid (show allA l = ⟨(andL l).toArray⟩ from if_pos hok)
    rw [E.out]
    generalize hws : (l.map fun a => fmtA a.1 a.2) = ws at XW hm EC EJ
    have hw1 : ws.length ≤ 1048576 := by omega
    clear hws hok h ht E
    generalize andL l = L at EJ EN ⊢
    go_enter Tryd.func29, Tryd.ntmps29
    go_wp2_with fail
    refine XW.out.mono ?_
    rintro e u ⟨rfl, hr, hb, hsz⟩
    have HJ := Lib.hid (Tryd.strings_Join w.heap.size 0 ws.length ws ⟨#[32, 97, 110, 100, 32]⟩ u (words_cells hr) hsz (by omega) (Nat.le_refl _) (by rw [EJ.out]; have := EN.out; omega))
    have HC := Lib.hid (Tryd.slices_Contains_string w.heap.size 0 ws.length ws.length ws ByteArray.empty u (Nat.le_refl _) (by omega) (fun j hj => by rw [Nat.zero_add]; exact hr.cell hj))
    have HB := Lib.hid hb
    rw [EJ.out] at HJ
    rw [EC.out] at HC
    clear hr hb hsz hm
    go_wp2_with fail
    refine HC.out.mono ?_
    rintro e u2 ⟨rfl, rfl⟩
    go_wp2_with fail
    refine HJ.out.mono ?_
    rintro e u3 ⟨rfl, d⟩
    go_wp2
    go_ret
    exact ⟨rfl, step HB.out d⟩
  · have hok' : okA l = false := by simpa using hok
    rw [hok'] at EC
    have E := Lib.hid (show allA l = ⟨#[]⟩ from if_neg (by simp [hok']))
    rw [E.out]
    generalize hws : (l.map fun a => fmtA a.1 a.2) = ws at XW hm EC
    have hw1 : ws.length ≤ 1048576 := by omega
    clear hws hok hok' h ht E
    go_enter Tryd.func29, Tryd.ntmps29
    go_wp2_with fail
    refine XW.out.mono ?_
    rintro e u ⟨rfl, hr, hb, hsz⟩
    have HC := Lib.hid (Tryd.slices_Contains_string w.heap.size 0 ws.length ws.length ws ByteArray.empty u (Nat.le_refl _) (by omega) (fun j hj => by rw [Nat.zero_add]; exact hr.cell hj))
    have HB := Lib.hid hb
    rw [EC.out] at HC
    clear hr hb hsz hm
    go_wp2_with fail
    refine HC.out.mono ?_
    rintro e u2 ⟨rfl, rfl⟩
    go_wp2
    go_ret
    exact ⟨rfl, HB.out⟩

set_option maxRecDepth 100000 in
set_option maxHeartbeats 2000000 in
theorem impl_FormatQuery (H A : Option Addr) (ch c : Nat) (hs : List Int) (l : FL) (hh : hs.length ≤ 1048577) (hz : szF l ≤ 1048576) (w : World) (h : RI w H hs) (h' : RF w A l) (ht : Tab w) :
    Calls Tryd.prog 13 #[.agg #[.slice H hs.length ch, .slice A l.length c]] w fun e w' => e = .returned (.string (fmtQ hs l)) ∧ Below w.heap.size w w' := by
  have hl := szF_len hz
  have hl' : (l.length : Int) ≤ 1048576 := by omega
  have B0 := Lib.hid (below_alloc w (.cells #[.slice H hs.length ch, .slice A l.length c] 37))
  have X0 := Lib.hid (Box.new w #[.slice H hs.length ch, .slice A l.length c] 37)
  have XH := Lib.hid (isHead_any H A ch c hs l hh hz _ (h.step B0.out) (h'.step B0.out))
  have HH := Lib.hid h
  have HF := Lib.hid h'
  have HT := Lib.hid (Lib.tabBelow_of_tabIs ht)
  clear h h' ht
  by_cases c1 : inB (l.length : Int) 1 4 = true
  · have C1 := Lib.hid c1
    have hn : 1 ≤ (l.length : Int) ∧ (l.length : Int) ≤ 4 := by simpa [inB] using c1
    by_cases c2 : headB hs l = true
    · have C2 := Lib.hid c2
      have h3 : hs.length ≤ 3 ∧ inAll (wl 10 17 (terms l)) hs = true := by simpa [headB] using c2
      have hl3 := h3.1
      have HR := Lib.hid (allR_of (head_allR h3.2))
      have QY := Lib.hid fun (ho : okA l = true) => fmtQ_yes (show qOk hs l = true by unfold qOk; rw [c1, c2, ho]; rfl)
      have QN := Lib.hid fun (ho : okA l = false) => fmtQ_no (show qOk hs l = false by unfold qOk; rw [ho]; simp)
      clear c1 c2 h3
      go_enter Tryd.func13, Tryd.ntmps13
      go_wp2_with fail
      refine (isBetween_any (l.length : Int) 1 4 _).mono ?_
      rintro e w1 ⟨he, rfl⟩
      rw [C1.out] at he
      subst he
      go_wp2_with fail
      refine XH.out.mono ?_
      rintro e w1 ⟨he, d⟩
      rw [C2.out] at he
      subst he
      have B1 := Lib.hid (step B0.out d)
      have X1 := Lib.hid (X0.out.step d)
      have x1 := X1.out.cell 1
      simp only [List.getElem?_toArray, List.getElem?_cons_zero, List.getElem?_cons_succ] at x1
      have lx1 := X1.out.lt
      have XA := Lib.hid (formatAllOf_atm A c l hz w1 (HF.out.step B1.out) (fun W hW => HT.out W (step B1.out hW)))
      by_cases ho : okA l = true
      · have EQ := Lib.hid (QY.out ho)
        have EA := Lib.hid (show allA l = ⟨(andL l).toArray⟩ from if_pos ho)
        have hal := andL_len l ho
        have hal2 : (andL l).length ≤ 300 := by omega
        have n2 : ¬ andL l = [] := fun e => by
          have h1 : 1 ≤ l.length := by omega
          rcases l with _ | ⟨a, _ | ⟨b, r⟩⟩
          · simp at h1
          · have := (atL_len (okA_mem ho (a := a) (by simp))).1
            rw [show andL [a] = atL a from rfl] at e
            rw [show atL (a.1, a.2) = atL a from rfl, e] at this
            simp at this
          · have h2 := congrArg List.length e
            have := (atL_len (okA_mem ho (a := a) (by simp))).1
            rw [show atL (a.1, a.2) = atL a from rfl] at this
            simp [andL] at h2
            try omega
        have HLen := headL_len hl3 HR.out
        have XF := Lib.hid fun (W : World) (hW : Below w1.heap.size w1 W) => formatListOr_yes H ch hs hl3 HR.out W (HH.out.step (step B1.out hW)) (HT.out W (step B1.out hW))
        rw [EA.out] at XA
        generalize andL l = M at XA EQ hal2 n2
        generalize headL hs = P at XF EQ HLen
        have n1 : (M == []) = false := by simpa using n2
        clear d hal EA
        go_wp2_with fail
        refine XA.out.mono ?_
        rintro e w2 ⟨rfl, d2⟩
        have D2 := Lib.hid d2
        have X2 := X1.out.step d2
        have y0 := X2.cell 0
        simp only [List.getElem?_toArray, List.getElem?_cons_zero, List.getElem?_cons_succ] at y0
        clear d2 x1
        go_wp2_with fail
        refine (XF.out _ D2.out).mono ?_
        rintro e w3 ⟨rfl, d3⟩
        have D3 := Lib.hid (step B1.out (step D2.out d3))
        clear d3
        go_wp2
        go_ret
        refine ⟨ret_str ?_, D3.out⟩
        rw [EQ.out, show (⟨#[32, 105, 102, 32]⟩ : ByteArray) = ⟨[32, 105, 102, 32].toArray⟩ from rfl, ba_append, ba_append]
      · have ho' : okA l = false := by simpa using ho
        have EQ := Lib.hid (QN.out ho')
        have EA := Lib.hid (show allA l = ⟨#[]⟩ from if_neg ho)
        rw [EA.out] at XA
        clear d ho ho'
        go_wp2_with fail
        refine XA.out.mono ?_
        rintro e w2 ⟨rfl, d2⟩
        go_wp2
        go_ret
        exact ⟨ret_str EQ.out.symm, step B1.out d2⟩
    · have C2 := Lib.hid (show headB hs l = false by simpa using c2)
      have E := Lib.hid (fmtQ_no (show qOk hs l = false by unfold qOk; rw [C2.out]; simp))
      rw [E.out]
      clear c1 c2
      go_enter Tryd.func13, Tryd.ntmps13
      go_wp2_with fail
      refine (isBetween_any (l.length : Int) 1 4 _).mono ?_
      rintro e w1 ⟨he, rfl⟩
      rw [C1.out] at he
      subst he
      go_wp2_with fail
      refine XH.out.mono ?_
      rintro e w1 ⟨he, d⟩
      rw [C2.out] at he
      subst he
      have B1 := Lib.hid (step B0.out d)
      clear d
      go_wp2
      go_ret
      exact ⟨rfl, B1.out⟩
  · have C1 := Lib.hid (show inB (l.length : Int) 1 4 = false by simpa using c1)
    have E := Lib.hid (fmtQ_no (show qOk hs l = false by unfold qOk; rw [C1.out]; simp))
    rw [E.out]
    clear c1
    go_enter Tryd.func13, Tryd.ntmps13
    go_wp2_with fail
    refine (isBetween_any (l.length : Int) 1 4 _).mono ?_
    rintro e w1 ⟨he, rfl⟩
    rw [C1.out] at he
    subst he
    go_wp2
    go_ret
    exact ⟨rfl, B0.out⟩
end Go.Proofs.YtimlpdcambmcjaaDoor
