/- What the program's OpenAccesses returns. Conditions: none beyond each theorem's own. What the two functions IsAccess answer. Conditions: none beyond each theorem's own. What the functions on matching facts answer. Conditions: none beyond each theorem's own. What the two functions that gather the matching facts answer. Conditions: none beyond each theorem's own. -/
import Derived.Test.YtnmhppiccganoaaDoorAg11
import Derived.Test.YtnmhppiccganoaaDoorAg12
import Derived.Test.YtnmhppiccganoaaDoorAg4
import Derived.StringKeys
import Derived.Test.YtnmhppiccganoaaDoorAcc
import Derived.Test.YtnmhppiccganoaaDoorAddM

namespace Go.Proofs.YtnmhppiccganoaaDoor
open Go.ChangeShapes Go.WideShapes Go.ChangeAt Go.RowKit Go.Sort
open Go.Maps (Keyed string_keyed)
open Go.WideMaps (keyOf_string_mk)
set_option linter.unusedVariables false
set_option linter.unusedSimpArgs false

theorem dg_inj {a b : Int} (ha : 0 ≤ a ∧ a ≤ 9) (hb : 0 ≤ b ∧ b ≤ 9) (h : dg a = dg b) : a = b := by
  unfold dg at h
  have h1 := congrArg UInt8.toNat h
  rw [UInt8.toNat_ofNat', UInt8.toNat_ofNat'] at h1
  omega
theorem commaL_inj : ∀ (l l' : List Int), (∀ x ∈ l, 0 ≤ x ∧ x ≤ 9) → (∀ x ∈ l', 0 ≤ x ∧ x ≤ 9) → commaL l = commaL l' → l = l'
  | [], [], _, _, _ => rfl
  | [], [y], _, _, h => by simp [commaL] at h
  | [], y :: z :: r, _, _, h => by simp [commaL] at h
  | [x], [], _, _, h => by simp [commaL] at h
  | [x], [y], h1, h2, h => by
    simp only [commaL, List.cons.injEq, and_true] at h
    rw [dg_inj (h1 x (by simp)) (h2 y (by simp)) h]
  | [x], y :: z :: r, _, _, h => by simp [commaL] at h
  | x :: x' :: q, [], _, _, h => by simp [commaL] at h
  | x :: x' :: q, [y], _, _, h => by simp [commaL] at h
  | x :: x' :: q, y :: z :: r, h1, h2, h => by
    simp only [commaL, List.cons.injEq, true_and] at h
    rw [dg_inj (h1 x (by simp)) (h2 y (by simp)) h.1, commaL_inj (x' :: q) (z :: r) (fun a ha => h1 a (by simp [List.mem_cons] at ha ⊢; exact .inr ha)) (fun a ha => h2 a (by simp [List.mem_cons] at ha ⊢; exact .inr ha)) h.2]
theorem allB_mem {xs : List Int} {a b : Int} (h : allB a b xs = true) : ∀ x ∈ xs, a ≤ x ∧ x ≤ b := fun x hx => by
  unfold allB at h
  rw [List.all_eq_true] at h
  simpa [inB] using h x hx
/-- The bytes of an access's format. -/
def fb (a : Int × List Int) : List UInt8 := (fmtAc a.1 a.2).data.toList
theorem fb_yes {r : Int} {xs : List Int} (h : acOk r xs = true) : fb (r, xs) = [109, dg r, 40] ++ commaL xs ++ [41] := by
  show (fmtAc r xs).data.toList = _
  rw [fmtAc_yes h]
theorem fb_no {r : Int} {xs : List Int} (h : acOk r xs = false) : fb (r, xs) = [] := by
  show (fmtAc r xs).data.toList = _
  rw [fmtAc_no h]
theorem fb_inj {r r' : Int} {xs ys : List Int} (h : acOk r xs = true) (e : fb (r, xs) = fb (r', ys)) : (r, xs) = (r', ys) := by
  rw [fb_yes h] at e
  by_cases h' : acOk r' ys = true
  · rw [fb_yes h'] at e
    have a1 : inB r 0 4 = true ∧ allB 0 9 xs = true := by unfold acOk at h; simp only [Bool.and_eq_true] at h; exact ⟨h.1.1, h.2⟩
    have a2 : inB r' 0 4 = true ∧ allB 0 9 ys = true := by unfold acOk at h'; simp only [Bool.and_eq_true] at h'; exact ⟨h'.1.1, h'.2⟩
    have r1 : 0 ≤ r ∧ r ≤ 4 := by simpa [inB] using a1.1
    have r2 : 0 ≤ r' ∧ r' ≤ 4 := by simpa [inB] using a2.1
    simp only [List.cons_append, List.nil_append, List.cons.injEq, true_and] at e
    have e2 : commaL xs = commaL ys := List.append_cancel_right e.2
    rw [dg_inj (by omega) (by omega) e.1, commaL_inj xs ys (allB_mem a1.2) (allB_mem a2.2) e2]
  · rw [fb_no (by simpa using h')] at e
    simp at e
theorem fb_mem {r : Int} {xs : List Int} {log : FL} (h : acOk r xs = true) : decide (fb (r, xs) ∈ log.map fb) = decide ((r, xs) ∈ log) := by
  rw [decide_eq_decide, List.mem_map]
  constructor
  · rintro ⟨b, hb, e⟩
    obtain ⟨r', ys⟩ := b
    rw [fb_inj h e.symm]
    exact hb
  · intro hm
    exact ⟨_, hm, rfl⟩
theorem fmtAc_size (r : Int) (xs : List Int) : (fmtAc r xs).size ≤ 100 := by
  show (fmtAc r xs).data.size ≤ 100
  have e : (fmtAc r xs).data.size = (fb (r, xs)).length := by simp [fb]
  rw [e]
  by_cases h : acOk r xs = true
  · rw [fb_yes h]
    have h3 : xs.length ≤ 3 := by unfold acOk at h; simp only [Bool.and_eq_true, decide_eq_true_eq] at h; exact h.1.2
    have := commaL_len xs
    simp only [List.length_append, List.length_cons, List.length_nil]
    omega
  · rw [fb_no (by simpa using h)]; simp

/-! The set of formats. -/
set_option maxRecDepth 100000 in
theorem lawS : Keyed Tryd.prog 9 := string_keyed Tryd.underlying9
set_option maxRecDepth 100000 in
theorem zeroB (w : World) : (zeroValue 4).run Tryd.prog w = .ok (.bool false) w := by kernel_rfl
/-- The map at block mb has the formats of the accesses done, each with true. -/
def AS (w : World) (mb : Nat) (done : FL) : Prop :=
  ∃ (n : Nat) (D : DataW Unit), w.ownsMap Tryd.prog 9 (plainElem Tryd.prog 4) mb n D ∧ n ≤ done.length ∧ Maps.IsMap D ∧ ∀ s : List UInt8, D.atKey (.string s) (.lit (.bool false)) = .lit (.bool (decide (s ∈ done.map fb)))
theorem AS.keep {w w' : World} {mb : Nat} {done : FL} (h : AS w mb done) (e : w'.heap[mb]? = w.heap[mb]?) : AS w' mb done := by
  obtain ⟨n, D, ⟨es, ck, h1, r⟩, h2⟩ := h
  exact ⟨n, D, ⟨es, ck, e.trans h1, r⟩, h2⟩
theorem AS.block {w : World} {mb : Nat} {done : FL} (h : AS w mb done) : ∃ es ck, w.heap[mb]? = some (.map es ck) := by
  obtain ⟨n, D, ⟨es, ck, h1, r⟩, h2⟩ := h
  exact ⟨es, ck, h1⟩
theorem AS.lt {w : World} {mb : Nat} {done : FL} (h : AS w mb done) : mb < w.heap.size := by
  obtain ⟨es, ck, h1⟩ := h.block
  exact (Array.getElem?_eq_some_iff.1 h1).1
theorem AS.step {w w' : World} {mb : Nat} {done : FL} (h : AS w mb done) (b : Below w.heap.size w w') : AS w' mb done := h.keep (b.block mb h.lt)
set_option maxRecDepth 100000 in
theorem AS.made (w : World) : AS (w.alloc (.map #[] 0)) w.heap.size [] :=
  ⟨0, _, World.ownsMap_made w Tryd.prog 9 (plainElem (H := Unit) Tryd.prog 4), Nat.zero_le _, Maps.isMap_empty, fun s => by simp [WideAt.atKey_none]⟩
set_option maxRecDepth 100000 in
theorem AS.put {w : World} {mb : Nat} {done : FL} (h : AS w mb done) (hl : done.length ≤ 1048576) (r : Int) (xs : List Int) : ∃ w', (Instr.mapUpdate 61 (.map (some mb)) (.string (fmtAc r xs)) (.bool true)).run Tryd.prog w = .ok () w' ∧ AS w' mb (done ++ [(r, xs)]) ∧ w.grownBy w' (some mb) := by
  obtain ⟨n, D, hM, hn, hI, hat⟩ := h
  have hkey : keyOf Tryd.prog 9 (.string (fmtAc r xs)) = some (.string (fmtAc r xs).data.toList) := keyOf_string_mk Tryd.underlying9 (by have := fmtAc_size r xs; unfold maxLen; omega)
  obtain ⟨w', hrun, hown, hg⟩ := hM.update (t := 61) lawS Tryd.underlying61 (by unfold maxLen; omega) hkey (plainElem_bool Tryd.underlying4 true)
  refine ⟨w', hrun, ⟨n + 1, _, hown, by rw [List.length_append]; simp; omega, hI.put _ _, fun s => ?_⟩, hg⟩
  by_cases e : s = (fmtAc r xs).data.toList
  · subst e
    rw [Maps.atKey_put_same hI (lawS.key hkey), List.map_append]
    have : (fmtAc r xs).data.toList ∈ done.map fb ++ [(r, xs)].map fb := List.mem_append.2 (.inr (by simp [fb]))
    rw [decide_eq_true this]
  · rw [Maps.atKey_put_other (fun h => e (by injection h)), hat s, List.map_append]
    congr 2
    rw [decide_eq_decide, List.mem_append]
    constructor
    · exact .inl
    · rintro (h | h)
      · exact h
      · exact absurd (by simpa [fb] using h) e
set_option maxRecDepth 100000 in
theorem AS.look {w : World} {mb : Nat} {done : FL} (h : AS w mb done) (r : Int) (xs : List Int) : (Instr.lookup 61 (.map (some mb)) (.string (fmtAc r xs)) false).run Tryd.prog w = .ok (.bool (decide (fb (r, xs) ∈ done.map fb))) w := by
  obtain ⟨n, D, hM, hn, hI, hat⟩ := h
  have hkey : keyOf Tryd.prog 9 (.string (fmtAc r xs)) = some (.string (fmtAc r xs).data.toList) := keyOf_string_mk Tryd.underlying9 (by have := fmtAc_size r xs; unfold maxLen; omega)
  obtain ⟨v, ps, hrun, hv⟩ := hM.lookup lawS Tryd.underlying61 (zeroB w) (plainElem_bool Tryd.underlying4 false) hkey
  rw [hat (fmtAc r xs).data.toList] at hv
  have hvb : v = .bool (decide (fb (r, xs) ∈ done.map fb)) := by
    unfold plainElem at hv
    rw [Tryd.underlying4] at hv
    cases v <;> simp at hv
    rw [hv.1]
    exact congrArg Value.bool (decide_eq_decide.2 Iff.rfl)
  rw [hrun, hvb]

set_option maxRecDepth 100000 in
set_option maxHeartbeats 2000000 in
theorem formatsOf_any (A : Option Addr) (c : Nat) (l : FL) (hz : szF l ≤ 1048576) (w : World) (h : RF w A l) (ht : TabB w) :
    Calls Tryd.prog 32 #[.slice A l.length c] w fun e w' => e = .returned (.map (some w.heap.size)) ∧ AS w' w.heap.size l ∧ Below w.heap.size w w' := by
  have hmm := @run_makeMap Tryd.prog
  have hl := szF_len hz
  have hl' : (l.length : Int) ≤ 1048576 := by omega
  have HI := Lib.hid h
  have HT := Lib.hid ht
  have A0 := Lib.hid (AS.made w)
  have B0 := Lib.hid (below_alloc w (.map #[] 0))
  clear h ht
  go_enter Tryd.func32, Tryd.ntmps32
  go_wp2
  go_loopw [5, 9] (fun _ i wr => ∃ k : Nat, k ≤ l.length ∧ i = .int .i64 k ∧ Hid (AS wr w.heap.size (l.take k)) ∧ Hid (Below w.heap.size w wr)) (fun _ i _ => l.length - (intOf i).toNat)
  case atStart => exact ⟨0, by omega, rfl, by simpa using A0, B0⟩
  case round =>
    obtain ⟨k, hk, rfl, hA, hB⟩ := hrel
    by_cases hlt : k < l.length
    · have hk0 : (0 : Int) ≤ (k : Int) := by omega
      have hk1 : (k : Int) < (l.length : Int) := by omega
      generalize hf : l.getD k (0, []) = a
      obtain ⟨x, vs⟩ := a
      have hxl : vs.length ≤ 1048576 := by have := szF_elem hz hlt; rw [hf] at this; exact this
      obtain ⟨b, off, V, cv, rfl, hb1, e0, e1, _, _, hV⟩ := (HI.out.step hB.out).at_ hlt hf
      have ba := below_alloc wr (.cells #[.int .i64 x, .slice V vs.length cv] 66)
      have XA := Lib.hid (impl_FormatAccess_r x vs V cv hxl _ (hV.step ba) (HT.out.step (step hB.out ba)))
      have E := Lib.hid (show l.take (k + 1) = l.take k ++ [(x, vs)] by
        have e : l[k] = (x, vs) := by rw [← hf]; simp [List.getD_eq_getElem?_getD, hlt]
        rw [List.take_succ_eq_append_getElem hlt, e])
      have htl : (l.take k).length ≤ 1048576 := by rw [List.length_take]; omega
      clear hf hV ba
      go_wp2_with fail
      refine XA.out.mono ?_
      rintro e u ⟨rfl, d⟩
      have d2 := below_new d
      have Y5 := Box.of_new d
      have A5 := hA.out.step d2
      obtain ⟨u6, hrun6, hA6, hg6⟩ := A5.put htl x vs
      have B6 := Lib.hid (show Below w.heap.size w u6 from (step hB.out d2).trans ((Below.refl w.heap.size u).grown hg6 (by have := d2.size; have := hB.out.size; omega) (fun j hj => by injection hj with hj; omega)))
      have A6 := Lib.hid hA6
      clear d d2 Y5 A5 hA6 hg6
      go_wp2
      go_roundw
      case rel => exact ⟨k + 1, by omega, by go_num, Lib.hid (by rw [E.out]; exact A6.out), B6⟩
      case measure => simp [intOf]; omega
    · obtain rfl : k = l.length := by omega
      go_wp2
      go_ret
      exact ⟨rfl, by have := hA.out; rwa [take_all] at this, hB.out⟩

theorem OwnCA.keptMap {w w' : World} {lo hi : Nat} {v : Value} {fs : FL} {cs : List Value} {bs : Nat → Nat} (h : OwnCA w lo hi v fs cs bs) (hg : w.grownBy w' v.ownBlock) {mb : Nat} {done : FL} (hA : AS w mb done) : AS w' mb done := by
  refine hA.keep (hg.block mb hA.lt fun e => ?_)
  obtain ⟨es, ck, hm⟩ := hA.block
  rcases h.1.2 with ⟨rfl, _⟩ | ⟨g, cap, cur, rfl, _, hh, _⟩
  · simp [Value.ownBlock] at e
  · have : g = mb := own_some e.symm
    subst this
    rw [hm] at hh
    cases hh
theorem OwnCA.keptBox {w w' : World} {lo hi : Nat} {v : Value} {fs : FL} {cs : List Value} {bs : Nat → Nat} (h : OwnCA w lo hi v fs cs bs) (hg : w.grownBy w' v.ownBlock) {g : Nat} {bx : Array Value} {t : TypeId} (hX : Box w g bx t) (ht : t ≠ 66) : Box w' g bx t := by
  refine (hg.block g hX.lt fun e => ?_).trans hX
  rcases h.1.2 with ⟨rfl, _⟩ | ⟨g', cap, cur, rfl, _, hh, _⟩
  · simp [Value.ownBlock] at e
  · have eg : g' = g := own_some e.symm
    subst eg
    have := hX.symm.trans hh
    injection this with this
    injection this with _ ht'
    exact ht ht'
/-- Where the blocks of the accesses listed lie: below mid, or with one of the first m lists. -/
def Wh (out : FL) (bs : Nat → Nat) (mid : Nat) (L : TL) (bsL : Nat → Nat) (m : Nat) : Prop := ∀ k, k < out.length → 0 < (out.getD k (0, [])).2.length → bs k < mid ∨ ∃ i, i < m ∧ 0 < (L.getD i []).length ∧ bs k = bsL i
theorem Wh.next {out : FL} {bs : Nat → Nat} {mid : Nat} {L : TL} {bsL : Nat → Nat} {m : Nat} (h : Wh out bs mid L bsL m) : Wh out bs mid L bsL (m + 1) := fun k hk hp => by
  rcases h k hk hp with h | ⟨i, h1, h2⟩
  · exact .inl h
  · exact .inr ⟨i, by omega, h2⟩
theorem Wh.push {out : FL} {bs : Nat → Nat} {mid : Nat} {L : TL} {bsL : Nat → Nat} {m : Nat} (h : Wh out bs mid L bsL m) {r : Int} {l : List Int} (hl : L.getD m [] = l) : Wh (out ++ [(r, l)]) (fun k => if k < out.length then bs k else bsL m) mid L bsL (m + 1) := fun k hk hp => by
  by_cases hkl : k < out.length
  · rw [getD_left out _ hkl] at hp
    simp only [if_pos hkl]
    exact h.next k hkl hp
  · have e : k = out.length := by simp at hk; omega
    subst e
    rw [getD_right out _ (Nat.le_refl _), Nat.sub_self] at hp
    simp only [if_neg hkl]
    exact .inr ⟨m, Nat.lt_succ_self _, by rw [hl]; exact hp, rfl⟩
theorem Wh.apart {w : World} {out : FL} {bs : Nat → Nat} {mid hi : Nat} {L : TL} {cs : List Value} {bsL : Nat → Nat} {m : Nat} (h : Wh out bs mid L bsL m) (hT : ItemsT w mid hi L cs bsL) (hm : m < L.length) {l : List Int} (hl : L.getD m [] = l) :
    ∀ k, k < out.length → 0 < (out.getD k (0, [])).2.length → 0 < l.length → bs k ≠ bsL m := fun k hk hp hp2 => by
  rw [← hl] at hp2
  rcases h k hk hp with h | ⟨i, h1, h2, h3⟩
  · have := hT.rng hm hp2
    omega
  · rw [h3]
    exact hT.2.2 i m h1 hm h2 hp2
theorem OwnCT.at_ {w : World} {lo hi c : Nat} {A : Option Addr} {ts : TL} {cs : List Value} {bs : Nat → Nat} (h : OwnCT w lo hi (.slice A ts.length c) ts cs bs) {k : Nat} (hk : k < ts.length) {l : List Int} (hl : ts.getD k [] = l) :
    ∃ g V cv, A = some ⟨g, 0, none⟩ ∧ w.cell? ⟨g, k, none⟩ = some (.slice V l.length cv) ∧ OwnV w lo hi (.slice V l.length cv) (bs k) l := by
  obtain ⟨v1, e1, hv⟩ := h.2.2.1 k hk
  rw [hl] at hv
  rcases h.addr with ⟨_, h0⟩ | ⟨g, rfl⟩
  · subst h0; simp at hk
  · obtain ⟨V, cv, rfl, _, _⟩ := hv.form
    exact ⟨g, V, cv, rfl, ownCT_cells h k _ e1, hv⟩

set_option maxRecDepth 100000 in
set_option maxHeartbeats 8000000 in
theorem openLoop_any (S : Option Addr) (cs : Nat) (s : List Int) (M : Option Addr) (cm : Nat) (ms : ML) (A V G : Option Addr) (c d e' : Nat) (fs : FL) (vs : List Int) (log : FL) (n : Int) (hls : s.length ≤ 1048576) (hzm : szM ms ≤ 1048576) (hlv : vs.length ≤ 1048576) (hz : szF log ≤ 1048576) (c1 : aremB s ms = true) (c2 : inpB 10 vs = true)
    (w : World) (hS : RI w S s) (hM : RM w M ms) (hV : RI w V vs) (hG : RF w G log) (ht : TabB w) :
    Calls Tryd.prog 10 #[.slice S s.length cs, .slice M ms.length cm, .agg #[.slice A fs.length c, .slice V vs.length d, .slice G log.length e', .int .i64 n]] w (AddOutA w (opnN ms vs log ms.length)) := by
  obtain ⟨i0, hi, hz0, hz1, hz2⟩ := info_parts access_info
  have hml := arem_len c1
  have hml' : (ms.length : Int) ≤ 5 := by omega
  have hmi := fun k (hk : k < ms.length) => arem_inp c1 hk
  have hv : vs.length ≤ 10 := inpB_len (a := 10) c2
  have DG := Lib.hid (inpB_dig c2)
  have b0 := below_alloc w (.cells #[.slice A fs.length c, .slice V vs.length d, .slice G log.length e', .int .i64 n] 37)
  have B0 := Lib.hid b0
  have X0 := Lib.hid (Box.new w #[.slice A fs.length c, .slice V vs.length d, .slice G log.length e', .int .i64 n] 37)
  have XM := Lib.hid (impl_AreMethods S cs s M cm ms hls hzm _ (hS.step b0) (hM.step b0))
  have XV := Lib.hid fun (W : World) (hW : RI W V vs) => areInputs_any V d vs 10 (by omega) (by omega) hlv W hW
  have HM := Lib.hid hM
  have HV := Lib.hid hV
  have HG := Lib.hid hG
  have HT := Lib.hid ht
  have C1 := Lib.hid c1
  have C2 := Lib.hid c2
  clear hS hM hV hG ht b0 c1 c2
  go_enter Tryd.func10, Tryd.ntmps10
  go_wp2_with fail
  refine XM.out.mono ?_
  rintro e w1 ⟨he, d1⟩
  rw [C1.out] at he
  subst he
  have X1 := Lib.hid (X0.out.step d1)
  have D1 := Lib.hid (step B0.out d1)
  have x1 := X1.out.cell 1
  simp only [List.getElem?_toArray, List.getElem?_cons_zero, List.getElem?_cons_succ] at x1
  clear d1
  go_wp2_with fail
  refine (XV.out _ (HV.out.step D1.out)).mono ?_
  rintro e w2 ⟨he, d2⟩
  rw [C2.out] at he
  subst he
  have X2 := Lib.hid (X1.out.step d2)
  have D2 := Lib.hid (step D1.out d2)
  have x2 := X2.out.cell 2
  simp only [List.getElem?_toArray, List.getElem?_cons_zero, List.getElem?_cons_succ] at x2
  have XF := Lib.hid (formatsOf_any G e' log hz w2 (HG.out.step D2.out) (HT.out.step D2.out))
  clear d2 x1
  go_wp2_with fail
  refine XF.out.mono ?_
  rintro e w3 ⟨rfl, hA3, d3⟩
  obtain ⟨mb, hmb⟩ : ∃ mb, mb = w2.heap.size := ⟨_, rfl⟩
  rw [← hmb] at hA3 ⊢
  have A3 := Lib.hid hA3
  have X3 := Lib.hid (X2.out.step d3)
  have D3 := Lib.hid (step D2.out d3)
  clear d3 x2 hA3 hmb
  go_wp2
  go_loopw [8, 9, 10, 12, 13, 29] (fun o _ _ _ _ i wr => ∃ (k : Nat) (A2 : Option Addr) (c2 : Nat) (out : FL) (cs : List Value) (bs : Nat → Nat), k ≤ ms.length ∧ i = .int .i64 k ∧ o = .slice A2 out.length c2 ∧ Hid (out = opnN ms vs log k) ∧ Hid (OwnCA wr w.heap.size wr.heap.size (.slice A2 out.length c2) out cs bs) ∧ Hid (AS wr mb log) ∧ Hid (Box wr w.heap.size #[.slice A fs.length c, .slice V vs.length d, .slice G log.length e', .int .i64 n] 37) ∧ Hid (Below w.heap.size w wr)) (fun _ _ _ _ _ i _ => ms.length - (intOf i).toNat)
  case atStart => exact ⟨0, none, 0, [], [], fun _ => 0, by omega, rfl, rfl, Lib.hid rfl, Lib.hid (OwnCA.nil _ _ _), A3, X3, D3⟩
  case round =>
    obtain ⟨k, A2, c2, out, cs, bs, hk, rfl, rfl, hE, hO, hAS, hX, hB⟩ := hrel
    have hk0 : (0 : Int) ≤ (k : Int) := by omega
    by_cases hlt : k < ms.length
    · have hk1 : (k : Int) < (ms.length : Int) := by omega
      have hin := hmi k hlt
      have EN := Lib.hid (show opnN ms vs log (k + 1) = opnN ms vs log k ++ opnAt ms vs log k from rfl)
      generalize hf : ms.getD k noM = f at hin
      obtain ⟨r, xs, li, co, qu⟩ := f
      simp only at hin
      have EA := Lib.hid (show opnAt ms vs log k = if li = 0 then opnM log k (lst vs xs.length) else [] by unfold opnAt; rw [hf])
      obtain ⟨b, off, B, c4, rfl, nb, e0, e1, e2, e3, e4, hxc, hcm, hI⟩ := (HM.out.step hB.out).at_ hlt hf
      have hB0 := hB.out.size
      have gn := hX.out.lt
      have g1 := hX.out.cell 1
      simp only [List.getElem?_toArray, List.getElem?_cons_zero, List.getElem?_cons_succ] at g1
      have ba := below_alloc wr (.cells #[.int .i64 r, .slice B xs.length c4, .int .i64 li, .int .i64 co, .int .i64 qu] 56)
      have BA := Lib.hid ba
      clear hf hI
      by_cases hli : li = 0
      · subst hli
        have XL := Lib.hid (listsOf_any V d vs xs.length hv hin _ ((HV.out.step hB.out).step ba))
        have hL := lst_le hv hin
        have EL := Lib.hid fun l (hl : l ∈ lst vs xs.length) => lst_elem vs xs.length l hl
        rw [if_pos rfl] at EA
        generalize lst vs xs.length = L at XL hL EL EA
        have hL' : (L.length : Int) ≤ 1000 := by omega
        have hx' : (xs.length : Int) ≤ 3 := by omega
        clear ba
        go_wp2_with fail
        refine XL.out.mono ?_
        rintro e u3 ⟨A3, c3, cs3, bs3, rfl, ho3, d3⟩
        rw [al_size] at ho3
        have D3 := Lib.hid (step BA.out d3)
        have hs3 := D3.out.size
        have zm : wr.heap.size + 1 ≤ u3.heap.size := by have := d3.size; rw [al_size] at this; exact this
        have hO3 := Lib.hid ((hO.out.step D3.out))
        have hA3 := Lib.hid (hAS.out.step D3.out)
        have hX3 := Lib.hid (hX.out.step D3.out)
        have hB3 := Lib.hid (step hB.out D3.out)
        have E3 := Lib.hid (show out = opnN ms vs log k ++ opnM log k (L.take 0) by rw [hE.out]; simp [opnM])
        have O3 := Lib.hid ho3
        have W3 := Lib.hid (show Wh out bs (wr.heap.size + 1) L bs3 0 from fun j hj hp => .inl (by have := hO.out.2.rng hj hp; omega))
        obtain ⟨mid, hmid⟩ : ∃ mid, mid = wr.heap.size + 1 := ⟨_, rfl⟩
        rw [← hmid] at O3 W3
        have hmw : w.heap.size ≤ mid := by omega
        have hmu : mid ≤ u3.heap.size := by omega
        clear hX hO hB hE hAS D3 ho3 d3 e0 e1 e2 e3 e4 g1 BA hmid
        go_wp2
        go_loopw [8, 12, 13, 44] (fun o _ _ i wr => ∃ (m : Nat) (A2 : Option Addr) (c2 : Nat) (out : FL) (cs : List Value) (bs : Nat → Nat), m ≤ L.length ∧ i = .int .i64 m ∧ o = .slice A2 out.length c2 ∧ Hid (out = opnN ms vs log k ++ opnM log k (L.take m)) ∧ Hid (OwnCA wr w.heap.size u3.heap.size (.slice A2 out.length c2) out cs bs) ∧ Hid (OwnCT wr mid u3.heap.size (.slice A3 L.length c3) L cs3 bs3) ∧ Hid (Wh out bs mid L bs3 m) ∧ Hid (AS wr mb log) ∧ Hid (Box wr w.heap.size #[.slice A fs.length c, .slice V vs.length d, .slice G log.length e', .int .i64 n] 37) ∧ Hid (Below w.heap.size w wr) ∧ Hid (u3.heap.size ≤ wr.heap.size)) (fun _ _ _ i _ => L.length - (intOf i).toNat)
        case atStart => exact ⟨0, A2, c2, out, cs, bs, by omega, rfl, rfl, E3, hO3, O3, W3, hA3, hX3, hB3, Lib.hid (Nat.le_refl _)⟩
        case round =>
          obtain ⟨m, A2, c2, out, cs, bs, hm, rfl, rfl, hE, hO, hT, hW, hAS, hX, hB, hS⟩ := hrel
          have hm0 : (0 : Int) ≤ (m : Int) := by omega
          by_cases hmt : m < L.length
          · have hm1 : (m : Int) < (L.length : Int) := by omega
            generalize hf : L.getD m [] = l
            have HL := Lib.hid (EL.out l (getD_mem' hmt hf))
            have EM := Lib.hid (opnM_take log k L hmt hf)
            have hll : l.length ≤ 3 := by rw [HL.out.1]; exact hin
            have OK := Lib.hid (show acOk k l = true by
              unfold acOk
              simp only [Bool.and_eq_true, decide_eq_true_eq]
              refine ⟨⟨by simp [inB]; omega, hll⟩, ?_⟩
              unfold allB
              rw [List.all_eq_true]
              intro x hx
              have := DG.out x (HL.out.2 x hx)
              simp [inB]
              omega)
            have hol2 : out.length ≤ 1048576 := by have h1 := opnN_len log hv hmi k (by omega); have h2 := opnM_len log k (L.take m); rw [hE.out, List.length_append]; rw [List.length_take] at h2; omega
            obtain ⟨g, B, c4, hA3', e0, hVl⟩ := hT.out.at_ hmt hf
            subst hA3'
            have AP := Lib.hid (hW.out.apart hT.out.2 hmt hf)
            have WN := Lib.hid (hW.out.push (r := k) hf)
            have hS' := hS.out
            have hB0 := hB.out.size
            have ba := below_alloc wr (.cells #[.int .i64 k, .slice B l.length c4] 66)
            have BA := Lib.hid ba
            have RL := hVl.ints.2.2.2.mono (Nat.zero_le _) hS'
            have XA := Lib.hid (impl_FormatAccess_r k l B c4 (by omega) _ (RI.step RL ba) (HT.out.step (step hB.out ba)))
            have VL := Lib.hid hVl
            clear hf hVl RL ba
            go_wp2_with fail
            refine XA.out.mono ?_
            rintro e w6 ⟨rfl, d6⟩
            have Y6 := Lib.hid (Box.of_new d6)
            have D6 := Lib.hid (step BA.out d6)
            have s6 := D6.out.size
            have A6 := Lib.hid (hAS.out.step D6.out)
            have LK := A6.out.look k l
            rw [fb_mem OK.out] at LK
            have z0 := Y6.out.cell 0
            have z1 := Y6.out.cell 1
            simp only [List.getElem?_toArray, List.getElem?_cons_zero, List.getElem?_cons_succ] at z0 z1
            have X6 := Lib.hid (hX.out.step D6.out)
            have O6 := Lib.hid (hO.out.cur hS' D6.out)
            have T6 := Lib.hid (hT.out.cur hS' D6.out)
            have B6 := Lib.hid (step hB.out D6.out)
            have V6 := Lib.hid (VL.out.keep (w' := w6) (fun _ h2 _ => D6.out.block _ (by omega)))
            clear d6 e0
            by_cases hq : decide (((k : Int), l) ∈ log) = true
            · rw [hq] at LK
              have E6 := Lib.hid (show out = opnN ms vs log k ++ opnM log k (L.take (m + 1)) by rw [EM.out, if_pos hq, hE.out]; simp)
              clear hq z0 z1
              go_wp2
              go_roundw
              case rel => exact ⟨m + 1, A2, c2, out, cs, bs, by omega, by go_num, rfl, E6, O6, T6, Lib.hid hW.out.next, A6, X6, B6, Lib.hid (by omega)⟩
              case measure => simp [intOf]; omega
            · have hq' : decide (((k : Int), l) ∈ log) = false := by simpa using hq
              rw [hq'] at LK
              have E6 := Lib.hid (show out ++ [((k : Int), l)] = opnN ms vs log k ++ opnM log k (L.take (m + 1)) by rw [EM.out, if_neg hq, hE.out, List.append_assoc])
              clear hq hq'
              go_wp2_with (at_builtin; refine wpList_pushA rfl _ _ 30 rfl i0 Tryd.underlying30 hi hz0 hz1 hz2 rfl rfl O6.out (V6.out.mono hmw (Nat.le_refl _)) AP.out (by omega) (by omega) (by omega) ?_)
              intro v7 w7 hF7 hg7
              obtain ⟨A7, c7, rfl⟩ := hF7.form
              have F7 := Lib.hid hF7
              have G7 := Lib.hid (show Below w.heap.size w6 w7 from below_grown O6.out.1 hg7 (Nat.le_refl _) (by omega))
              have s7 := hg7.size
              have T7 := Lib.hid (T6.out.typed fun b c t ht hb => O6.out.kept hg7 b c t ht hb)
              have X7 := Lib.hid (O6.out.keptBox hg7 X6.out (by decide))
              have A7' := Lib.hid (O6.out.keptMap hg7 A6.out)
              clear hF7 hg7
              go_wp2
              go_roundw
              case rel => exact ⟨m + 1, A7, c7, _, _, _, by omega, by go_num, by rw [List.length_append], E6, F7, T7, WN, A7', X7, Lib.hid (B6.out.trans G7.out), Lib.hid (by omega)⟩
              case measure => simp [intOf]; omega
          · obtain rfl : m = L.length := by omega
            have E6 := Lib.hid (show out = opnN ms vs log (k + 1) by rw [EN.out, EA.out, hE.out, take_all])
            go_wp2
            go_roundw
            case rel => exact ⟨k + 1, A2, c2, out, cs, bs, by omega, by go_num, rfl, E6, Lib.hid (hO.out.mono hS.out), hAS, hX, hB⟩
            case measure => simp [intOf]; omega
      · have d1 : (li == 0) = false := by simpa using hli
        have d2 : (li != 0) = true := by simpa using hli
        have E6 := Lib.hid (show out = opnN ms vs log (k + 1) by rw [EN.out, EA.out, if_neg hli, hE.out]; simp)
        have hO3 := Lib.hid (hO.out.step ba)
        have hA3 := Lib.hid (hAS.out.step ba)
        have hX3 := Lib.hid (hX.out.step ba)
        have hB3 := Lib.hid (step hB.out ba)
        clear hli ba
        go_wp2
        go_roundw
        case rel => exact ⟨k + 1, A2, c2, out, cs, bs, by omega, by go_num, rfl, E6, hO3, hA3, hX3, hB3⟩
        case measure => simp [intOf]; omega
    · obtain rfl : k = ms.length := by omega
      go_wp2
      go_ret
      exact ⟨A2, c2, cs, bs, congrArg (fun o : FL => Ending.returned (.slice A2 o.length c2)) hE.out, by rw [← hE.out]; exact hO.out, hB.out⟩

set_option maxRecDepth 100000 in
set_option maxHeartbeats 2000000 in
theorem impl_OpenAccesses (S : Option Addr) (cs : Nat) (s : List Int) (M : Option Addr) (cm : Nat) (ms : ML) (A V G : Option Addr) (c d e' : Nat) (fs : FL) (vs : List Int) (log : FL) (n : Int) (hls : s.length ≤ 1048576) (hzm : szM ms ≤ 1048576) (hlv : vs.length ≤ 1048576) (hz : szF log ≤ 1048576)
    (w : World) (hS : RI w S s) (hM : RM w M ms) (hV : RI w V vs) (hG : RF w G log) (ht : TabB w) :
    Calls Tryd.prog 10 #[.slice S s.length cs, .slice M ms.length cm, .agg #[.slice A fs.length c, .slice V vs.length d, .slice G log.length e', .int .i64 n]] w (AddOutA w (opnA s ms vs log)) := by
  by_cases c1 : aremB s ms = true
  · by_cases c2 : inpB 10 vs = true
    · rw [opnA_yes c1 c2]
      exact openLoop_any S cs s M cm ms A V G c d e' fs vs log n hls hzm hlv hz c1 c2 w hS hM hV hG ht
    · have b0 := below_alloc w (.cells #[.slice A fs.length c, .slice V vs.length d, .slice G log.length e', .int .i64 n] 37)
      have B0 := Lib.hid b0
      have X0 := Lib.hid (Box.new w #[.slice A fs.length c, .slice V vs.length d, .slice G log.length e', .int .i64 n] 37)
      have XM := Lib.hid (impl_AreMethods S cs s M cm ms hls hzm _ (hS.step b0) (hM.step b0))
      have XV := Lib.hid fun (W : World) (hW : RI W V vs) => areInputs_any V d vs 10 (by omega) (by omega) hlv W hW
      have HV := Lib.hid (hV.step b0)
      have C1 := Lib.hid c1
      have C2 := Lib.hid (show inpB 10 vs = false by simpa using c2)
      have E := Lib.hid (opnA_no (s := s) (ms := ms) (vs := vs) (log := log) (fun h => c2 h.2))
      rw [E.out]
      clear c1 c2 hS hM hV hG ht b0
      go_enter Tryd.func10, Tryd.ntmps10
      go_wp2_with fail
      refine XM.out.mono ?_
      rintro e w1 ⟨he, d1⟩
      rw [C1.out] at he
      subst he
      have X1 := Lib.hid (X0.out.step d1)
      have D1 := Lib.hid (step B0.out d1)
      have V1 := Lib.hid (HV.out.step d1)
      have x1 := X1.out.cell 1
      simp only [List.getElem?_toArray, List.getElem?_cons_zero, List.getElem?_cons_succ] at x1
      clear d1
      go_wp2_with fail
      refine (XV.out _ V1.out).mono ?_
      rintro e w2 ⟨he, d2⟩
      rw [C2.out] at he
      subst he
      have D2 := Lib.hid (step D1.out d2)
      clear d2 x1
      go_wp2
      go_ret
      exact addOutA_nil D2.out
  · have b0 := below_alloc w (.cells #[.slice A fs.length c, .slice V vs.length d, .slice G log.length e', .int .i64 n] 37)
    have B0 := Lib.hid b0
    have XM := Lib.hid (impl_AreMethods S cs s M cm ms hls hzm _ (hS.step b0) (hM.step b0))
    have C1 := Lib.hid (show aremB s ms = false by simpa using c1)
    have E := Lib.hid (opnA_no (s := s) (ms := ms) (vs := vs) (log := log) (fun h => c1 h.1))
    rw [E.out]
    clear c1 hS hM hV hG ht b0
    go_enter Tryd.func10, Tryd.ntmps10
    go_wp2_with fail
    refine XM.out.mono ?_
    rintro e w1 ⟨he, d1⟩
    rw [C1.out] at he
    subst he
    have D1 := Lib.hid (step B0.out d1)
    clear d1
    go_wp2
    go_ret
    exact addOutA_nil D1.out
end Go.Proofs.YtnmhppiccganoaaDoor

namespace Go.Proofs.YtnmhppiccganoaaDoor
open Go.ChangeShapes Go.WideShapes Go.ChangeAt Go.RowKit Go.Sort
set_option linter.unusedVariables false
set_option linter.unusedSimpArgs false

/-- Is it an access of the methods l? -/
def accB (s : List Int) (l : ML) (m : Int) (vs : List Int) : Bool := aremB s l && inB m 0 ((l.length : Int) - 1) && decide ((vs.length : Int) = ((l.getD m.toNat noM).2.1.length : Int)) && allB 0 9 vs

end Go.Proofs.YtnmhppiccganoaaDoor

namespace Go.Proofs.YtnmhppiccganoaaDoor
open Go.ChangeShapes Go.WideShapes Go.ChangeAt Go.RowKit Go.Sort
set_option linter.unusedVariables false
set_option linter.unusedSimpArgs false

/-- Has the fact ys the value of the access at input number k? -/
def fitAt (xs vs ys : List Int) (k : Nat) : Bool := decide (ys.getD (xs.getD k 0).toNat 0 = vs.getD k 0)
def fitN (xs vs ys : List Int) (n : Nat) : Bool := (List.range n).all (fitAt xs vs ys)
theorem fitN_succ (xs vs ys : List Int) (k : Nat) : fitN xs vs ys (k + 1) = (fitN xs vs ys k && fitAt xs vs ys k) := by
  unfold fitN
  rw [List.range_succ, List.all_append]
  simp
theorem fitN_not (xs vs ys : List Int) (k n : Nat) (hk : k < n) (h : fitAt xs vs ys k = false) : fitN xs vs ys n = false := by
  unfold fitN
  rw [List.all_eq_false]
  exact ⟨k, by simpa using hk, by simp [h]⟩
def fitB (r : Int) (xs vs : List Int) (r' : Int) (ys : List Int) : Bool := decide (r' = r) && fitN xs vs ys xs.length
/-- The inputs are places of the facts of the relation. -/
def fitOk (r : Int) (xs : List Int) (r' : Int) (ys : List Int) : Prop := r' = r → ∀ k, k < xs.length → 0 ≤ xs.getD k 0 ∧ xs.getD k 0 < (ys.length : Int)
def matF (r : Int) (xs vs : List Int) (l : FL) : FL := l.filter fun f => fitB r xs vs f.1 f.2
theorem matF_step (r : Int) (xs vs : List Int) (l : FL) (k : Nat) (hk : k < l.length) {r' : Int} {ys : List Int} (hf : l.getD k (0, []) = (r', ys)) : matF r xs vs (l.take (k + 1)) = matF r xs vs (l.take k) ++ (if fitB r xs vs r' ys then [(r', ys)] else []) := by
  unfold matF
  rw [List.take_succ_eq_append_getElem hk, List.filter_append]
  have h1 : l[k] = (r', ys) := by rw [← hf]; simp [List.getD_eq_getElem?_getD, hk]
  rw [h1]
  simp [List.filter_cons]
theorem matF_len (r : Int) (xs vs : List Int) (l : FL) : (matF r xs vs l).length ≤ l.length := List.length_filter_le _ _

end Go.Proofs.YtnmhppiccganoaaDoor

namespace Go.Proofs.YtnmhppiccganoaaDoor
open Go.ChangeShapes Go.WideShapes Go.ChangeAt Go.RowKit Go.Sort
set_option linter.unusedVariables false
set_option linter.unusedSimpArgs false

theorem matF_yes {r : Int} {xs vs : List Int} {l : FL} {k : Nat} (hk : k < l.length) {r' : Int} {ys : List Int} (hf : l.getD k (0, []) = (r', ys)) (h : fitB r xs vs r' ys = true) {out : FL} (ho : out = matF r xs vs (l.take k)) : out ++ [(r', ys)] = matF r xs vs (l.take (k + 1)) := by
  rw [matF_step r xs vs l k hk hf, h, ho, if_pos rfl]
theorem matF_no {r : Int} {xs vs : List Int} {l : FL} {k : Nat} (hk : k < l.length) {r' : Int} {ys : List Int} (hf : l.getD k (0, []) = (r', ys)) (h : fitB r xs vs r' ys = false) {out : FL} (ho : out = matF r xs vs (l.take k)) : out = matF r xs vs (l.take (k + 1)) := by
  rw [matF_step r xs vs l k hk hf, h, ho, if_neg (by simp), List.append_nil]
theorem matF_lt {r : Int} {xs vs : List Int} {l : FL} {k : Nat} {out : FL} (ho : out = matF r xs vs (l.take k)) : out.length ≤ k := by
  rw [ho]
  refine Nat.le_trans (matF_len _ _ _ _) ?_
  rw [List.length_take]
  omega

end Go.Proofs.YtnmhppiccganoaaDoor
