/- What the program's FormatMethod answers. Conditions: none beyond each theorem's own. -/
import Derived.Test.YtenondgjipmhnaaDoorFmtM
import Derived.Deep.AppendLies
import Derived.Deep.RegionHeld3
namespace Go.Proofs.YtenondgjipmhnaaDoor
open Go.ChangeShapes Go.WideShapes Go.ChangeAt Go.RowKit Go.Sort
set_option linter.unusedVariables false
set_option linter.unusedSimpArgs false

set_option maxRecDepth 100000 in
theorem limitOf_eq (g : Nat) (w : World) : Calls Tryd.prog 42 #[.pointer (some ⟨g, 0, none⟩)] w fun e w' => e = .returned (.pointer (some ⟨g, 2, none⟩)) ∧ w = w' := by
  go_enter Tryd.func42, Tryd.ntmps42
  go_wp2
  go_ret
  exact ⟨rfl, rfl⟩

set_option maxRecDepth 100000 in
theorem costOf_eq (g : Nat) (w : World) : Calls Tryd.prog 43 #[.pointer (some ⟨g, 0, none⟩)] w fun e w' => e = .returned (.pointer (some ⟨g, 3, none⟩)) ∧ w = w' := by
  go_enter Tryd.func43, Tryd.ntmps43
  go_wp2
  go_ret
  exact ⟨rfl, rfl⟩

set_option maxRecDepth 100000 in
theorem quotaOf_eq (g : Nat) (w : World) : Calls Tryd.prog 44 #[.pointer (some ⟨g, 0, none⟩)] w fun e w' => e = .returned (.pointer (some ⟨g, 4, none⟩)) ∧ w = w' := by
  go_enter Tryd.func44, Tryd.ntmps44
  go_wp2
  go_ret
  exact ⟨rfl, rfl⟩

set_option maxRecDepth 100000 in
set_option maxHeartbeats 400000 in
theorem formatListOr_free (A : Option Addr) (c : Nat) (xs : List Int) (hl : xs.length ≤ 3) (hd : allB 0 9 xs = true) (w : World) (h : RI w A xs) (ht : TabB w) :
    Calls Tryd.prog 25 #[.string ⟨#[102, 114, 101, 101]⟩, .slice A xs.length c, .func (.func 24) #[] #[]] w fun e w' => e = .returned (.string ⟨(inpT xs).toArray⟩) ∧ Below w.heap.size w w' := by
  have hl' : (xs.length : Int) ≤ 3 := by omega
  have XL := Lib.hid (formatList_int A c xs hl hd w h (ht w (Below.refl _ _)))
  clear h ht hd
  by_cases hx0 : xs = []
  · have ET := Lib.hid (show inpT xs = [102, 114, 101, 101] from if_pos hx0)
    have hl0 : xs.length = 0 := by rw [hx0]; rfl
    have d0 : ((xs.length : Int) == 0) = true := by rw [hl0]; rfl
    clear hx0
    go_enter Tryd.func25, Tryd.ntmps25
    go_wp2
    go_ret
    exact ⟨ret_str (by rw [ET.out]), Below.refl _ _⟩
  · have ET := Lib.hid (show inpT xs = commaL xs from if_neg hx0)
    have hl0 : 0 < xs.length := List.length_pos_iff.2 hx0
    have d0 : ((xs.length : Int) == 0) = false := by simp; omega
    have d1 : ¬ (xs.length : Int) = 0 := by omega
    clear hx0
    go_enter Tryd.func25, Tryd.ntmps25
    go_wp2_with fail
    refine XL.out.mono ?_
    rintro e u ⟨rfl, d⟩
    go_wp2
    go_ret
    exact ⟨ret_str (by rw [ET.out]), d⟩

theorem ownN_none {w w' : World} (b : Below w.heap.size w w') : w.grownBy w' none := ⟨b.os, b.tape, b.output, b.size, fun k hk _ => b.block k hk⟩
/-- Strings of the call's own. -/
def OwnS (w : World) (base g n cap : Nat) (cs : List Value) : Prop := w.ownsRow base 9 1 (.slice (some ⟨g, 0, none⟩) n cap) n cs
theorem OwnS.step {w w' : World} {base g n cap : Nat} {cs : List Value} (h : OwnS w base g n cap cs) (b : Below w.heap.size w w') : OwnS w' base g n cap cs :=
  World.ownsRow.kept h (ownN_none b) (.inr (by simp [Value.ownBlock]))
theorem strL (p : UInt8) (l : List UInt8) : (⟨#[p]⟩ : ByteArray) ++ ⟨l.toArray⟩ = ⟨(p :: l).toArray⟩ := by
  rw [show (⟨#[p]⟩ : ByteArray) = ⟨[p].toArray⟩ from rfl, ba_append]
  rfl
theorem join_cat (r t a b c : List UInt8) : Lib.join [114 :: r, [105, 110], t, [108, 105, 109, 105, 116], a, [99, 111, 115, 116], b, [113, 117, 111, 116, 97], c] [32] = catM r t a b c := by
  simp [Lib.join_cons, Lib.joinTail, catM]

set_option maxHeartbeats 2000000 in
set_option maxRecDepth 100000 in
theorem impl_FormatMethod_no (r : Int) (xs : List Int) (li co qu : Int) (A : Option Addr) (c : Nat) (hno : (inB r 0 2 && inpB 3 xs && numB li co qu) = false) (hl : xs.length ≤ 1048576) (w : World) (h : RI w A xs) :
    Calls Tryd.prog 8 #[.agg #[.int .i64 r, .slice A xs.length c, .int .i64 li, .int .i64 co, .int .i64 qu]] w fun e w' => e = .returned (.string (fmtM r xs li co qu)) ∧ Below w.heap.size w w' := by
  have bb := below_alloc w (.cells #[.int .i64 r, .slice A xs.length c, .int .i64 li, .int .i64 co, .int .i64 qu] 27)
  have HJ := Lib.hid (h.step bb)
  have HB0 := Lib.hid bb
  have XG := Lib.hid (Box.new w #[.int .i64 r, .slice A xs.length c, .int .i64 li, .int .i64 co, .int .i64 qu] 27)
  have X1 := Lib.hid (areInputs_any A c xs 3 (by omega) (by omega) hl _ HJ.out)
  have X2 := Lib.hid (hasMethodNumbers_any r xs A xs.length c li co qu)
  clear h bb
  by_cases c0 : inB r 0 2 = true
  rotate_left
  · have C0 := Lib.hid (show inB r 0 2 = false by simpa using c0)
    have EH := Lib.hid (show fmtM r xs li co qu = ⟨#[]⟩ from fmtM_no (by simp [fmOk, C0.out]))
    clear c0
    go_enter Tryd.func8, Tryd.ntmps8
    go_wp2_with fail
    refine (isRelation_any r _).mono ?_
    rintro e u ⟨he, rfl⟩
    rw [C0.out] at he
    subst he
    go_wp2
    go_ret
    exact ⟨ret_str EH.out.symm, HB0.out⟩
  have C0 := Lib.hid c0
  clear c0
  by_cases c1 : inpB 3 xs = true
  rotate_left
  · have C1 := Lib.hid (show inpB 3 xs = false by simpa using c1)
    have EH := Lib.hid (show fmtM r xs li co qu = ⟨#[]⟩ from fmtM_no (by simp [fmOk, C1.out]))
    rw [C1.out] at X1
    clear c1
    go_enter Tryd.func8, Tryd.ntmps8
    go_wp2_with fail
    refine (isRelation_any r _).mono ?_
    rintro e u ⟨he, rfl⟩
    rw [C0.out] at he
    subst he
    go_wp2_with fail
    refine X1.out.mono ?_
    rintro e u ⟨rfl, d⟩
    have D := Lib.hid (step HB0.out d)
    clear d
    go_wp2
    go_ret
    exact ⟨ret_str EH.out.symm, D.out⟩
  have C1 := Lib.hid c1
  rw [c1] at X1
  clear c1
  have C2 := Lib.hid (show numB li co qu = false by rw [C0.out, C1.out] at hno; simpa using hno)
  have EH := Lib.hid (show fmtM r xs li co qu = ⟨#[]⟩ from fmtM_no (by simp [fmOk, C2.out]))
  rw [C2.out] at X2
  clear hno
  go_enter Tryd.func8, Tryd.ntmps8
  go_wp2_with fail
  refine (isRelation_any r _).mono ?_
  rintro e u ⟨he, rfl⟩
  rw [C0.out] at he
  subst he
  go_wp2_with fail
  refine X1.out.mono ?_
  rintro e u ⟨rfl, d⟩
  have D := Lib.hid (step HB0.out d)
  have XB := XG.out.step d
  have g0 := XB.cell 0
  have g1 := XB.cell 1
  have g2 := XB.cell 2
  have g3 := XB.cell 3
  have g4 := XB.cell 4
  simp only [List.getElem?_toArray, List.getElem?_cons_zero, List.getElem?_cons_succ] at g0 g1 g2 g3 g4
  clear d XB
  go_wp2_with fail
  refine (X2.out _).mono ?_
  rintro e u2 ⟨rfl, d⟩
  have D2 := Lib.hid (step D.out d)
  clear d
  go_wp2
  go_ret
  exact ⟨ret_str EH.out.symm, D2.out⟩


set_option maxHeartbeats 8000000 in
set_option maxRecDepth 100000 in
theorem impl_FormatMethod_yes (r : Int) (xs : List Int) (li co qu : Int) (A : Option Addr) (c : Nat) (c0 : inB r 0 2 = true) (c1 : inpB 3 xs = true) (c2 : numB li co qu = true) (hl : xs.length ≤ 1048576) (w : World) (h : RI w A xs) (ht : TabB w) :
    Calls Tryd.prog 8 #[.agg #[.int .i64 r, .slice A xs.length c, .int .i64 li, .int .i64 co, .int .i64 qu]] w fun e w' => e = .returned (.string (fmtM r xs li co qu)) ∧ Below w.heap.size w w' := by
  obtain ⟨i0, hi, hz0, hz1, hz2⟩ := info_parts string_info
  have EY := Lib.hid (fmtM_yes (show fmOk r xs li co qu = true by simp [fmOk, c0, c1, c2]))
  have R0 : 0 ≤ r ∧ r ≤ 2 := by simpa [inB] using c0
  have hq : (0 ≤ li ∧ li ≤ 9) ∧ (0 ≤ co ∧ co ≤ 99) ∧ (1 ≤ qu ∧ qu ≤ 99) := by
    unfold numB at c2
    simp only [Bool.and_eq_true] at c2
    exact ⟨by simpa [inB] using c2.1.1, by simpa [inB] using c2.1.2, by simpa [inB] using c2.2⟩
  have I3 := inp_three c1
  have bb := below_alloc w (.cells #[.int .i64 r, .slice A xs.length c, .int .i64 li, .int .i64 co, .int .i64 qu] 27)
  have HJ := Lib.hid (h.step bb)
  have HB0 := Lib.hid bb
  have XG := Lib.hid (Box.new w #[.int .i64 r, .slice A xs.length c, .int .i64 li, .int .i64 co, .int .i64 qu] 27)
  have HT := Lib.hid ht
  have C0 := Lib.hid c0
  have X1 := Lib.hid (areInputs_any A c xs 3 (by omega) (by omega) hl _ HJ.out)
  have X2 := Lib.hid (hasMethodNumbers_any r xs A xs.length c li co qu)
  rw [c1] at X1
  rw [c2] at X2
  have XF := Lib.hid fun (W : World) (hW : Below (w.alloc (.cells #[.int .i64 r, .slice A xs.length c, .int .i64 li, .int .i64 co, .int .i64 qu] 27)).heap.size (w.alloc (.cells #[.int .i64 r, .slice A xs.length c, .int .i64 li, .int .i64 co, .int .i64 qu] 27)) W) => formatListOr_free A c xs I3.1 I3.2 W (HJ.out.step hW) (HT.out.step (step HB0.out hW))
  have Xtr := Lib.hid fun (W : World) (hW : Below w.heap.size w W) => (show Calls Tryd.prog 24 #[.int .i64 r] W fun e w' => e = .returned (.string ⟨(Lib.itoa r).toArray⟩) ∧ Below W.heap.size W w' from impl_FormatInt r (by omega) (by omega) W (HT.out W hW))
  have Xtl := Lib.hid fun (W : World) (hW : Below w.heap.size w W) => (show Calls Tryd.prog 24 #[.int .i64 li] W fun e w' => e = .returned (.string ⟨(Lib.itoa li).toArray⟩) ∧ Below W.heap.size W w' from impl_FormatInt li (by omega) (by omega) W (HT.out W hW))
  have Xtc := Lib.hid fun (W : World) (hW : Below w.heap.size w W) => (show Calls Tryd.prog 24 #[.int .i64 co] W fun e w' => e = .returned (.string ⟨(Lib.itoa co).toArray⟩) ∧ Below W.heap.size W w' from impl_FormatInt co (by omega) (by omega) W (HT.out W hW))
  have Xtq := Lib.hid fun (W : World) (hW : Below w.heap.size w W) => (show Calls Tryd.prog 24 #[.int .i64 qu] W fun e w' => e = .returned (.string ⟨(Lib.itoa qu).toArray⟩) ∧ Below W.heap.size W w' from impl_FormatInt qu (by omega) (by omega) W (HT.out W hW))
  have n1 := itoa_len R0.1 (by omega)
  have n2 := itoa_len hq.1.1 (by omega)
  have n3 := itoa_len hq.2.1.1 hq.2.1.2
  have n4 := itoa_len (show 0 ≤ qu by omega) hq.2.2.2
  have n5 : (inpT xs).length ≤ 6 := by
    unfold inpT
    split
    · simp
    · have := commaL_len xs; have := I3.1; omega
  generalize Lib.itoa r = tr at Xtr n1 EY
  generalize Lib.itoa li = tl at Xtl n2 EY
  generalize Lib.itoa co = tc at Xtc n3 EY
  generalize Lib.itoa qu = tq at Xtq n4 EY
  generalize inpT xs = tt at XF n5 EY
  clear h bb ht c0 c1 c2 R0 hq I3
  go_enter Tryd.func8, Tryd.ntmps8
  go_wp2_with fail
  refine (isRelation_any r _).mono ?_
  rintro e u0 ⟨he, rfl⟩
  rw [C0.out] at he
  subst he
  go_wp2_with fail
  refine X1.out.mono ?_
  rintro e u1 ⟨rfl, d⟩
  have D1 := Lib.hid d
  have XB := XG.out.step d
  have g0 := XB.cell 0
  have g1 := XB.cell 1
  have g2 := XB.cell 2
  have g3 := XB.cell 3
  have g4 := XB.cell 4
  simp only [List.getElem?_toArray, List.getElem?_cons_zero, List.getElem?_cons_succ] at g0 g1 g2 g3 g4
  clear d XB
  go_wp2_with fail
  refine (X2.out _).mono ?_
  rintro e u2 ⟨rfl, d⟩
  have D2 := Lib.hid (step D1.out d)
  clear d g0 g1 g2 g3 g4
  have XB := XG.out.step D2.out
  have g0 := XB.cell 0
  have g1 := XB.cell 1
  simp only [List.getElem?_toArray, List.getElem?_cons_zero, List.getElem?_cons_succ] at g0 g1
  have gn := XB.lt
  have D2w := Lib.hid (step HB0.out D2.out)
  clear XB
  have s1 : ¬ (9223372036854775807 < 1 + tr.length) := by omega
  have s2 : ¬ (9223372036854775806 < tr.length) := by omega
  have s3 : 1 + tr.length ≤ 9223372036854775807 := by omega
  have s4 : tr.length ≤ 9223372036854775806 := by omega
  have s5 : (⟨#[114]⟩ : ByteArray).size + (⟨tr.toArray⟩ : ByteArray).size ≤ 9223372036854775807 := by simp [ByteArray.size]; omega
  have s6 : ¬ ((⟨#[114]⟩ : ByteArray).size + (⟨tr.toArray⟩ : ByteArray).size > 9223372036854775807) := by omega
  go_wp2
  go_region_held3 (fun w' => w'.cell? ⟨w.heap.size, 0, none⟩ = some (.int .i64 r) ∧ w'.cell? ⟨w.heap.size, 1, none⟩ = some (.slice A xs.length c))
    (first
      | go_keep
      | (go_split_ands; refine ⟨?_, ?_⟩ <;> (rw [d11.cell (by (try simp) <;> omega)]; assumption))
      | (go_split_ands; refine ⟨?_, ?_⟩ <;> (rw [d12.cell (by (try simp) <;> omega)]; assumption)))
    (first
      | (go_at_call 24
         refine (Xtr.out _ (by first | exact D2w.out | exact step D2w.out (below_drew _))).mono ?_
         rintro e v11 ⟨rfl, d11⟩
         have b11 : Below u2.heap.size u2 v11 := by first | exact d11 | exact und d11
         have n11 := b11.size)
      | (go_at_call 25
         refine (XF.out _ (step D2.out b11)).mono ?_
         rintro e v12 ⟨rfl, d12⟩
         have b12 := Lib.hid (step b11 d12)
         have n12 := d12.size))
  clear s1 s2 s3 s4 s5 s6
  have O12 := Lib.hid (show OwnS (v12.alloc (.cells #[.string ((⟨#[114]⟩ : ByteArray) ++ (⟨tr.toArray⟩ : ByteArray)), .string ⟨#[105, 110]⟩, .string ⟨tt.toArray⟩] 9)) (w.heap.size + 1) v12.heap.size 3 3 [.string ((⟨#[114]⟩ : ByteArray) ++ (⟨tr.toArray⟩ : ByteArray)), .string ⟨#[105, 110]⟩, .string ⟨tt.toArray⟩] from World.ownsRow_lit (base := w.heap.size + 1) (e := 9) (size := 1) v12 #[.string ((⟨#[114]⟩ : ByteArray) ++ (⟨tr.toArray⟩ : ByteArray)), .string ⟨#[105, 110]⟩, .string ⟨tt.toArray⟩] 3 (by omega) (by unfold maxLen; omega) rfl)
  have D12 := Lib.hid (step (step D2w.out b12.out) (below_alloc v12 (.cells #[.string ((⟨#[114]⟩ : ByteArray) ++ (⟨tr.toArray⟩ : ByteArray)), .string ⟨#[105, 110]⟩, .string ⟨tt.toArray⟩] 9)))
  have E12 := Lib.hid (step (step D2.out b12.out) (below_alloc v12 (.cells #[.string ((⟨#[114]⟩ : ByteArray) ++ (⟨tr.toArray⟩ : ByteArray)), .string ⟨#[105, 110]⟩, .string ⟨tt.toArray⟩] 9)))
  clear d11 d12 b11
  go_wp2_with fail
  refine (methodNumbers_any _).mono ?_
  rintro e u4 ⟨rfl, hT, d4⟩
  rw [al_size] at hT
  rw [al_size]
  have O4 := Lib.hid (O12.out.step d4)
  have D4 := Lib.hid (step D12.out d4)
  have T4 := Lib.hid hT
  have X4 := Lib.hid (XG.out.step (step E12.out d4))
  have n4' := d4.size
  rw [al_size] at n4'
  obtain ⟨tb, htb⟩ : ∃ tb, tb = v12.heap.size + 1 := ⟨_, rfl⟩
  rw [← htb] at T4 ⊢
  have nt1 : v12.heap.size ≠ tb := by omega
  have TBL := Lib.hid T4.out.lt
  have nt2 : tb < u4.heap.size := TBL.out
  have nt3 : w.heap.size + 1 ≤ u4.heap.size := by omega
  have nt4 : w.heap.size + 1 ≤ tb := by omega
  clear hT d4 htb g0 g1
  go_wp2
  go_loopw [3, 5, 31] (fun v _ i wr => ∃ (k rb cap : Nat) (cs : List Value), k ≤ 3 ∧ i = .int .i64 k ∧ v = .slice (some ⟨rb, 0, none⟩) (3 + 2 * k) cap ∧ Hid (OwnS wr (w.heap.size + 1) rb (3 + 2 * k) cap cs) ∧ cs = ([.string ((⟨#[114]⟩ : ByteArray) ++ (⟨tr.toArray⟩ : ByteArray)), .string ⟨#[105, 110]⟩, .string ⟨tt.toArray⟩, .string ⟨#[108, 105, 109, 105, 116]⟩, .string ⟨tl.toArray⟩, .string ⟨#[99, 111, 115, 116]⟩, .string ⟨tc.toArray⟩, .string ⟨#[113, 117, 111, 116, 97]⟩, .string ⟨tq.toArray⟩] : List Value).take (3 + 2 * k) ∧ rb ≠ tb ∧ Hid (Box wr tb numCells 52) ∧ Hid (Below (w.heap.size + 1) u4 wr)) (fun _ _ i _ => 3 - (intOf i).toNat)
  case atStart => exact ⟨0, v12.heap.size, 3, _, by omega, rfl, rfl, O4, rfl, nt1, T4, Lib.hid (Below.refl _ _)⟩
  obtain ⟨k, rb, cap, cs, hk, rfl, rfl, hown, hcs, hrb, hXT, hbw⟩ := hrel
  have XT := hXT.out
  have XM : Box wr w.heap.size #[.int .i64 r, .slice A xs.length c, .int .i64 li, .int .i64 co, .int .i64 qu] 27 := (hbw.out.block w.heap.size (by omega)).trans X4.out
  have D9 := Lib.hid (D4.out.trans (hbw.out.mono (by omega)) : Below w.heap.size w wr)
  have sz9 := hbw.out.size
  have nt5 : tb < wr.heap.size := XT.lt
  have RB1 := (World.ownsRow.lt hown.out rb (by simp [Value.ownBlock])).1
  have RB2 := (World.ownsRow.lt hown.out rb (by simp [Value.ownBlock])).2
  rcases (by omega : k = 0 ∨ k = 1 ∨ k = 2 ∨ k = 3) with rfl | rfl | rfl | rfl
  · obtain rfl : cs = [.string ((⟨#[114]⟩ : ByteArray) ++ (⟨tr.toArray⟩ : ByteArray)), .string ⟨#[105, 110]⟩, .string ⟨tt.toArray⟩] := hcs
    try clear hcs
    have q0 := XT.cell 0
    have q1 := XT.cell 1
    have q2 := XT.cell 2
    have q3 := XT.cell 3
    simp only [List.getElem?_toArray, List.getElem?_cons_zero, List.getElem?_cons_succ] at q0 q1 q2 q3
    have bv := below_alloc wr (.cells #[.int .i64 0, .int .i64 9, .string ⟨#[108, 105, 109, 105, 116]⟩, .func (.func 42) #[] #[]] 52)
    have XI := Box.new wr #[.int .i64 0, .int .i64 9, .string ⟨#[108, 105, 109, 105, 116]⟩, .func (.func 42) #[] #[]] 52
    have XM2 := XM.step bv
    have i2 := XI.cell 2
    have i3 := XI.cell 3
    have m2 := XM2.cell 2
    simp only [List.getElem?_toArray, List.getElem?_cons_zero, List.getElem?_cons_succ] at i2 i3 m2
    have HO := Lib.hid (hown.out.step bv)
    have BV := Lib.hid bv
    have MN := XM2.lt
    have IN := XI.lt
    rw [al_size] at MN IN
    clear XI XM2 bv
    go_wp2
    clear q0 q1 q2 q3
    go_region_held3 (fun w' => w'.cell? ⟨wr.heap.size, 2, none⟩ = some (.string ⟨#[108, 105, 109, 105, 116]⟩) ∧ w'.cell? ⟨wr.heap.size, 3, none⟩ = some (.func (.func 42) #[] #[]) ∧ w'.cell? ⟨w.heap.size, 2, none⟩ = some (.int .i64 li))
      (first
        | go_keep
        | (go_split_ands; refine ⟨?_, ?_, ?_⟩ <;> (rw [d21.cell (by (try simp) <;> omega)]; assumption))
        | (go_split_ands; refine ⟨?_, ?_, ?_⟩ <;> (rw [C31.out _ _ (by omega) (by omega)]; first | assumption | go_keep)))
      (first
        | (go_at_call 42
           refine (limitOf_eq w.heap.size _).mono ?_
           rintro e v20 ⟨rfl, rfl⟩)
        | (go_at_call 24
           refine (Xtl.out _ (by first | exact (step D9.out BV.out) | exact step (step D9.out BV.out) (below_drew _))).mono ?_
           rintro e v21 ⟨rfl, d21⟩
           have b21 : Below (wr.alloc (.cells #[.int .i64 0, .int .i64 9, .string ⟨#[108, 105, 109, 105, 116]⟩, .func (.func 42) #[] #[]] 52)).heap.size (wr.alloc (.cells #[.int .i64 0, .int .i64 9, .string ⟨#[108, 105, 109, 105, 116]⟩, .func (.func 42) #[] #[]] 52)) v21 := by first | exact d21 | exact und d21
           have HO21 := Lib.hid ((HO.out.step b21).step (below_alloc v21 (.cells #[.string ⟨#[108, 105, 109, 105, 116]⟩, .string ⟨tl.toArray⟩] 9)))
           have n21 := b21.size
           rw [al_size] at n21)
        | (refine step_append_lies _ (by rfl) _ _ _ (by rfl) (w.heap.size + 1) 9 i0 _ 1 16 Tryd.underlying45 hi hz0 hz1 hz2 rfl (by omega) (.slice (some ⟨rb, 0, none⟩) 3 cap) 3 [.string ((⟨#[114]⟩ : ByteArray) ++ (⟨tr.toArray⟩ : ByteArray)), .string ⟨#[105, 110]⟩, .string ⟨tt.toArray⟩] (by rfl) (by first | exact HO21.out | exact HO21.out.drew)
             ⟨v21.heap.size, 0, none⟩ 2 2 [.string ⟨#[108, 105, 109, 105, 116]⟩, .string ⟨tl.toArray⟩] (by rfl) (by rfl) (World.news_of_block (cs := #[.string ⟨#[108, 105, 109, 105, 116]⟩, .string ⟨tl.toArray⟩]) (t := 9) (fr := (0, 0)) (heap_alloc_new v21 _)) (by simp [Value.oneCell']) (by omega) (by unfold maxLen; omega) (by omega) (by (try simp) <;> omega) (v21.heap.size + 1) (by simp) ?_
           intro g31 cap31 v31 hown31 hgrow31 hat31 hlt31
           have hg31 : (v21.alloc (.cells #[.string ⟨#[108, 105, 109, 105, 116]⟩, .string ⟨tl.toArray⟩] 9)).grownBy v31 (Value.slice (some ⟨rb, 0, none⟩) 3 cap).ownBlock := ⟨hgrow31.os, hgrow31.tape, hgrow31.output, hgrow31.size, hgrow31.block⟩
           have d31 : Below (w.heap.size + 1) (v21.alloc (.cells #[.string ⟨#[108, 105, 109, 105, 116]⟩, .string ⟨tl.toArray⟩] 9)) v31 := (Below.refl _ _).grown hg31 (by (try simp) <;> omega) (fun q hq => (World.ownsRow.lt HO21.out q hq).1)
           have C31 := Lib.hid (show ∀ b o, b < wr.heap.size + 1 → rb ≠ b → v31.cell? ⟨b, o, none⟩ = (v21.alloc (.cells #[.string ⟨#[108, 105, 109, 105, 116]⟩, .string ⟨tl.toArray⟩] 9)).cell? ⟨b, o, none⟩ from fun b o hb hne => World.cell?_of_block (a := ⟨b, o, none⟩) (hg31.block b (by (try simp) <;> omega) (by simpa [Value.ownBlock] using Ne.symm hne)))
           have b31 := Lib.hid (step b21 (below_alloc v21 (.cells #[.string ⟨#[108, 105, 109, 105, 116]⟩, .string ⟨tl.toArray⟩] 9)))
           have O31 := Lib.hid (show OwnS v31 (w.heap.size + 1) g31 5 cap31 [.string ((⟨#[114]⟩ : ByteArray) ++ (⟨tr.toArray⟩ : ByteArray)), .string ⟨#[105, 110]⟩, .string ⟨tt.toArray⟩, .string ⟨#[108, 105, 109, 105, 116]⟩, .string ⟨tl.toArray⟩] from hown31)
           have AT := Lib.hid (show g31 ≠ tb by rcases hat31 with h | h
                                                · have : rb = g31 := by simpa [Value.ownBlock] using h
                                                  omega
                                                · omega)
           have T31 := Lib.hid (show Box v31 tb numCells 52 from (hg31.block tb (by (try simp) <;> omega) (by simp [Value.ownBlock]; omega)).trans ((XT.step (step BV.out b31.out))))
           clear hown31 hgrow31 hat31))
    have E31 := Lib.hid (((step BV.out b31.out).mono (show w.heap.size + 1 ≤ wr.heap.size by omega)).trans d31)
    clear hg31 hlt31 d31 d21
    go_wp2
    go_roundw
    case rel => exact ⟨1, g31, cap31, [.string ((⟨#[114]⟩ : ByteArray) ++ (⟨tr.toArray⟩ : ByteArray)), .string ⟨#[105, 110]⟩, .string ⟨tt.toArray⟩, .string ⟨#[108, 105, 109, 105, 116]⟩, .string ⟨tl.toArray⟩], by omega, by go_num, by first | rfl | go_num, O31, rfl, AT.out, T31, Lib.hid (hbw.out.trans E31.out)⟩
    case measure => simp [intOf]
  · obtain rfl : cs = [.string ((⟨#[114]⟩ : ByteArray) ++ (⟨tr.toArray⟩ : ByteArray)), .string ⟨#[105, 110]⟩, .string ⟨tt.toArray⟩, .string ⟨#[108, 105, 109, 105, 116]⟩, .string ⟨tl.toArray⟩] := hcs
    try clear hcs
    have q0 := XT.cell 4
    have q1 := XT.cell 5
    have q2 := XT.cell 6
    have q3 := XT.cell 7
    simp only [List.getElem?_toArray, List.getElem?_cons_zero, List.getElem?_cons_succ] at q0 q1 q2 q3
    have bv := below_alloc wr (.cells #[.int .i64 0, .int .i64 99, .string ⟨#[99, 111, 115, 116]⟩, .func (.func 43) #[] #[]] 52)
    have XI := Box.new wr #[.int .i64 0, .int .i64 99, .string ⟨#[99, 111, 115, 116]⟩, .func (.func 43) #[] #[]] 52
    have XM2 := XM.step bv
    have i2 := XI.cell 2
    have i3 := XI.cell 3
    have m2 := XM2.cell 3
    simp only [List.getElem?_toArray, List.getElem?_cons_zero, List.getElem?_cons_succ] at i2 i3 m2
    have HO := Lib.hid (hown.out.step bv)
    have BV := Lib.hid bv
    have MN := XM2.lt
    have IN := XI.lt
    rw [al_size] at MN IN
    clear XI XM2 bv
    go_wp2
    clear q0 q1 q2 q3
    go_region_held3 (fun w' => w'.cell? ⟨wr.heap.size, 2, none⟩ = some (.string ⟨#[99, 111, 115, 116]⟩) ∧ w'.cell? ⟨wr.heap.size, 3, none⟩ = some (.func (.func 43) #[] #[]) ∧ w'.cell? ⟨w.heap.size, 3, none⟩ = some (.int .i64 co))
      (first
        | go_keep
        | (go_split_ands; refine ⟨?_, ?_, ?_⟩ <;> (rw [d21.cell (by (try simp) <;> omega)]; assumption))
        | (go_split_ands; refine ⟨?_, ?_, ?_⟩ <;> (rw [C31.out _ _ (by omega) (by omega)]; first | assumption | go_keep)))
      (first
        | (go_at_call 43
           refine (costOf_eq w.heap.size _).mono ?_
           rintro e v20 ⟨rfl, rfl⟩)
        | (go_at_call 24
           refine (Xtc.out _ (by first | exact (step D9.out BV.out) | exact step (step D9.out BV.out) (below_drew _))).mono ?_
           rintro e v21 ⟨rfl, d21⟩
           have b21 : Below (wr.alloc (.cells #[.int .i64 0, .int .i64 99, .string ⟨#[99, 111, 115, 116]⟩, .func (.func 43) #[] #[]] 52)).heap.size (wr.alloc (.cells #[.int .i64 0, .int .i64 99, .string ⟨#[99, 111, 115, 116]⟩, .func (.func 43) #[] #[]] 52)) v21 := by first | exact d21 | exact und d21
           have HO21 := Lib.hid ((HO.out.step b21).step (below_alloc v21 (.cells #[.string ⟨#[99, 111, 115, 116]⟩, .string ⟨tc.toArray⟩] 9)))
           have n21 := b21.size
           rw [al_size] at n21)
        | (refine step_append_lies _ (by rfl) _ _ _ (by rfl) (w.heap.size + 1) 9 i0 _ 1 16 Tryd.underlying45 hi hz0 hz1 hz2 rfl (by omega) (.slice (some ⟨rb, 0, none⟩) 5 cap) 5 [.string ((⟨#[114]⟩ : ByteArray) ++ (⟨tr.toArray⟩ : ByteArray)), .string ⟨#[105, 110]⟩, .string ⟨tt.toArray⟩, .string ⟨#[108, 105, 109, 105, 116]⟩, .string ⟨tl.toArray⟩] (by rfl) (by first | exact HO21.out | exact HO21.out.drew)
             ⟨v21.heap.size, 0, none⟩ 2 2 [.string ⟨#[99, 111, 115, 116]⟩, .string ⟨tc.toArray⟩] (by rfl) (by rfl) (World.news_of_block (cs := #[.string ⟨#[99, 111, 115, 116]⟩, .string ⟨tc.toArray⟩]) (t := 9) (fr := (0, 0)) (heap_alloc_new v21 _)) (by simp [Value.oneCell']) (by omega) (by unfold maxLen; omega) (by omega) (by (try simp) <;> omega) (v21.heap.size + 1) (by simp) ?_
           intro g31 cap31 v31 hown31 hgrow31 hat31 hlt31
           have hg31 : (v21.alloc (.cells #[.string ⟨#[99, 111, 115, 116]⟩, .string ⟨tc.toArray⟩] 9)).grownBy v31 (Value.slice (some ⟨rb, 0, none⟩) 5 cap).ownBlock := ⟨hgrow31.os, hgrow31.tape, hgrow31.output, hgrow31.size, hgrow31.block⟩
           have d31 : Below (w.heap.size + 1) (v21.alloc (.cells #[.string ⟨#[99, 111, 115, 116]⟩, .string ⟨tc.toArray⟩] 9)) v31 := (Below.refl _ _).grown hg31 (by (try simp) <;> omega) (fun q hq => (World.ownsRow.lt HO21.out q hq).1)
           have C31 := Lib.hid (show ∀ b o, b < wr.heap.size + 1 → rb ≠ b → v31.cell? ⟨b, o, none⟩ = (v21.alloc (.cells #[.string ⟨#[99, 111, 115, 116]⟩, .string ⟨tc.toArray⟩] 9)).cell? ⟨b, o, none⟩ from fun b o hb hne => World.cell?_of_block (a := ⟨b, o, none⟩) (hg31.block b (by (try simp) <;> omega) (by simpa [Value.ownBlock] using Ne.symm hne)))
           have b31 := Lib.hid (step b21 (below_alloc v21 (.cells #[.string ⟨#[99, 111, 115, 116]⟩, .string ⟨tc.toArray⟩] 9)))
           have O31 := Lib.hid (show OwnS v31 (w.heap.size + 1) g31 7 cap31 [.string ((⟨#[114]⟩ : ByteArray) ++ (⟨tr.toArray⟩ : ByteArray)), .string ⟨#[105, 110]⟩, .string ⟨tt.toArray⟩, .string ⟨#[108, 105, 109, 105, 116]⟩, .string ⟨tl.toArray⟩, .string ⟨#[99, 111, 115, 116]⟩, .string ⟨tc.toArray⟩] from hown31)
           have AT := Lib.hid (show g31 ≠ tb by rcases hat31 with h | h
                                                · have : rb = g31 := by simpa [Value.ownBlock] using h
                                                  omega
                                                · omega)
           have T31 := Lib.hid (show Box v31 tb numCells 52 from (hg31.block tb (by (try simp) <;> omega) (by simp [Value.ownBlock]; omega)).trans ((XT.step (step BV.out b31.out))))
           clear hown31 hgrow31 hat31))
    have E31 := Lib.hid (((step BV.out b31.out).mono (show w.heap.size + 1 ≤ wr.heap.size by omega)).trans d31)
    clear hg31 hlt31 d31 d21
    go_wp2
    go_roundw
    case rel => exact ⟨2, g31, cap31, [.string ((⟨#[114]⟩ : ByteArray) ++ (⟨tr.toArray⟩ : ByteArray)), .string ⟨#[105, 110]⟩, .string ⟨tt.toArray⟩, .string ⟨#[108, 105, 109, 105, 116]⟩, .string ⟨tl.toArray⟩, .string ⟨#[99, 111, 115, 116]⟩, .string ⟨tc.toArray⟩], by omega, by go_num, by first | rfl | go_num, O31, rfl, AT.out, T31, Lib.hid (hbw.out.trans E31.out)⟩
    case measure => simp [intOf]
  · obtain rfl : cs = [.string ((⟨#[114]⟩ : ByteArray) ++ (⟨tr.toArray⟩ : ByteArray)), .string ⟨#[105, 110]⟩, .string ⟨tt.toArray⟩, .string ⟨#[108, 105, 109, 105, 116]⟩, .string ⟨tl.toArray⟩, .string ⟨#[99, 111, 115, 116]⟩, .string ⟨tc.toArray⟩] := hcs
    try clear hcs
    have q0 := XT.cell 8
    have q1 := XT.cell 9
    have q2 := XT.cell 10
    have q3 := XT.cell 11
    simp only [List.getElem?_toArray, List.getElem?_cons_zero, List.getElem?_cons_succ] at q0 q1 q2 q3
    have bv := below_alloc wr (.cells #[.int .i64 1, .int .i64 99, .string ⟨#[113, 117, 111, 116, 97]⟩, .func (.func 44) #[] #[]] 52)
    have XI := Box.new wr #[.int .i64 1, .int .i64 99, .string ⟨#[113, 117, 111, 116, 97]⟩, .func (.func 44) #[] #[]] 52
    have XM2 := XM.step bv
    have i2 := XI.cell 2
    have i3 := XI.cell 3
    have m2 := XM2.cell 4
    simp only [List.getElem?_toArray, List.getElem?_cons_zero, List.getElem?_cons_succ] at i2 i3 m2
    have HO := Lib.hid (hown.out.step bv)
    have BV := Lib.hid bv
    have MN := XM2.lt
    have IN := XI.lt
    rw [al_size] at MN IN
    clear XI XM2 bv
    go_wp2
    clear q0 q1 q2 q3
    go_region_held3 (fun w' => w'.cell? ⟨wr.heap.size, 2, none⟩ = some (.string ⟨#[113, 117, 111, 116, 97]⟩) ∧ w'.cell? ⟨wr.heap.size, 3, none⟩ = some (.func (.func 44) #[] #[]) ∧ w'.cell? ⟨w.heap.size, 4, none⟩ = some (.int .i64 qu))
      (first
        | go_keep
        | (go_split_ands; refine ⟨?_, ?_, ?_⟩ <;> (rw [d21.cell (by (try simp) <;> omega)]; assumption))
        | (go_split_ands; refine ⟨?_, ?_, ?_⟩ <;> (rw [C31.out _ _ (by omega) (by omega)]; first | assumption | go_keep)))
      (first
        | (go_at_call 44
           refine (quotaOf_eq w.heap.size _).mono ?_
           rintro e v20 ⟨rfl, rfl⟩)
        | (go_at_call 24
           refine (Xtq.out _ (by first | exact (step D9.out BV.out) | exact step (step D9.out BV.out) (below_drew _))).mono ?_
           rintro e v21 ⟨rfl, d21⟩
           have b21 : Below (wr.alloc (.cells #[.int .i64 1, .int .i64 99, .string ⟨#[113, 117, 111, 116, 97]⟩, .func (.func 44) #[] #[]] 52)).heap.size (wr.alloc (.cells #[.int .i64 1, .int .i64 99, .string ⟨#[113, 117, 111, 116, 97]⟩, .func (.func 44) #[] #[]] 52)) v21 := by first | exact d21 | exact und d21
           have HO21 := Lib.hid ((HO.out.step b21).step (below_alloc v21 (.cells #[.string ⟨#[113, 117, 111, 116, 97]⟩, .string ⟨tq.toArray⟩] 9)))
           have n21 := b21.size
           rw [al_size] at n21)
        | (refine step_append_lies _ (by rfl) _ _ _ (by rfl) (w.heap.size + 1) 9 i0 _ 1 16 Tryd.underlying45 hi hz0 hz1 hz2 rfl (by omega) (.slice (some ⟨rb, 0, none⟩) 7 cap) 7 [.string ((⟨#[114]⟩ : ByteArray) ++ (⟨tr.toArray⟩ : ByteArray)), .string ⟨#[105, 110]⟩, .string ⟨tt.toArray⟩, .string ⟨#[108, 105, 109, 105, 116]⟩, .string ⟨tl.toArray⟩, .string ⟨#[99, 111, 115, 116]⟩, .string ⟨tc.toArray⟩] (by rfl) (by first | exact HO21.out | exact HO21.out.drew)
             ⟨v21.heap.size, 0, none⟩ 2 2 [.string ⟨#[113, 117, 111, 116, 97]⟩, .string ⟨tq.toArray⟩] (by rfl) (by rfl) (World.news_of_block (cs := #[.string ⟨#[113, 117, 111, 116, 97]⟩, .string ⟨tq.toArray⟩]) (t := 9) (fr := (0, 0)) (heap_alloc_new v21 _)) (by simp [Value.oneCell']) (by omega) (by unfold maxLen; omega) (by omega) (by (try simp) <;> omega) (v21.heap.size + 1) (by simp) ?_
           intro g31 cap31 v31 hown31 hgrow31 hat31 hlt31
           have hg31 : (v21.alloc (.cells #[.string ⟨#[113, 117, 111, 116, 97]⟩, .string ⟨tq.toArray⟩] 9)).grownBy v31 (Value.slice (some ⟨rb, 0, none⟩) 7 cap).ownBlock := ⟨hgrow31.os, hgrow31.tape, hgrow31.output, hgrow31.size, hgrow31.block⟩
           have d31 : Below (w.heap.size + 1) (v21.alloc (.cells #[.string ⟨#[113, 117, 111, 116, 97]⟩, .string ⟨tq.toArray⟩] 9)) v31 := (Below.refl _ _).grown hg31 (by (try simp) <;> omega) (fun q hq => (World.ownsRow.lt HO21.out q hq).1)
           have C31 := Lib.hid (show ∀ b o, b < wr.heap.size + 1 → rb ≠ b → v31.cell? ⟨b, o, none⟩ = (v21.alloc (.cells #[.string ⟨#[113, 117, 111, 116, 97]⟩, .string ⟨tq.toArray⟩] 9)).cell? ⟨b, o, none⟩ from fun b o hb hne => World.cell?_of_block (a := ⟨b, o, none⟩) (hg31.block b (by (try simp) <;> omega) (by simpa [Value.ownBlock] using Ne.symm hne)))
           have b31 := Lib.hid (step b21 (below_alloc v21 (.cells #[.string ⟨#[113, 117, 111, 116, 97]⟩, .string ⟨tq.toArray⟩] 9)))
           have O31 := Lib.hid (show OwnS v31 (w.heap.size + 1) g31 9 cap31 [.string ((⟨#[114]⟩ : ByteArray) ++ (⟨tr.toArray⟩ : ByteArray)), .string ⟨#[105, 110]⟩, .string ⟨tt.toArray⟩, .string ⟨#[108, 105, 109, 105, 116]⟩, .string ⟨tl.toArray⟩, .string ⟨#[99, 111, 115, 116]⟩, .string ⟨tc.toArray⟩, .string ⟨#[113, 117, 111, 116, 97]⟩, .string ⟨tq.toArray⟩] from hown31)
           have AT := Lib.hid (show g31 ≠ tb by rcases hat31 with h | h
                                                · have : rb = g31 := by simpa [Value.ownBlock] using h
                                                  omega
                                                · omega)
           have T31 := Lib.hid (show Box v31 tb numCells 52 from (hg31.block tb (by (try simp) <;> omega) (by simp [Value.ownBlock]; omega)).trans ((XT.step (step BV.out b31.out))))
           clear hown31 hgrow31 hat31))
    have E31 := Lib.hid (((step BV.out b31.out).mono (show w.heap.size + 1 ≤ wr.heap.size by omega)).trans d31)
    clear hg31 hlt31 d31 d21
    go_wp2
    go_roundw
    case rel => exact ⟨3, g31, cap31, [.string ((⟨#[114]⟩ : ByteArray) ++ (⟨tr.toArray⟩ : ByteArray)), .string ⟨#[105, 110]⟩, .string ⟨tt.toArray⟩, .string ⟨#[108, 105, 109, 105, 116]⟩, .string ⟨tl.toArray⟩, .string ⟨#[99, 111, 115, 116]⟩, .string ⟨tc.toArray⟩, .string ⟨#[113, 117, 111, 116, 97]⟩, .string ⟨tq.toArray⟩], by omega, by go_num, by first | rfl | go_num, O31, rfl, AT.out, T31, Lib.hid (hbw.out.trans E31.out)⟩
    case measure => simp [intOf]
  · obtain rfl : cs = [.string ((⟨#[114]⟩ : ByteArray) ++ (⟨tr.toArray⟩ : ByteArray)), .string ⟨#[105, 110]⟩, .string ⟨tt.toArray⟩, .string ⟨#[108, 105, 109, 105, 116]⟩, .string ⟨tl.toArray⟩, .string ⟨#[99, 111, 115, 116]⟩, .string ⟨tc.toArray⟩, .string ⟨#[113, 117, 111, 116, 97]⟩, .string ⟨tq.toArray⟩] := hcs
    try clear hcs
    clear XM XT
    have ST := Lib.hid (strL 114 tr)
    have JJ := Lib.hid (Tryd.strings_Join rb 0 cap [((⟨#[114]⟩ : ByteArray) ++ (⟨tr.toArray⟩ : ByteArray)), ⟨#[105, 110]⟩, ⟨tt.toArray⟩, ⟨#[108, 105, 109, 105, 116]⟩, ⟨tl.toArray⟩, ⟨#[99, 111, 115, 116]⟩, ⟨tc.toArray⟩, ⟨#[113, 117, 111, 116, 97]⟩, ⟨tq.toArray⟩] ⟨#[32]⟩ wr (fun j x hx => by
      rw [Nat.zero_add]
      have hj : j < 9 := by have := (List.getElem?_eq_some_iff.1 hx).1; simpa using this
      rw [World.ownsRow.cellAt hown.out j (by omega)]
      rcases (by omega : j = 0 ∨ j = 1 ∨ j = 2 ∨ j = 3 ∨ j = 4 ∨ j = 5 ∨ j = 6 ∨ j = 7 ∨ j = 8) with rfl | rfl | rfl | rfl | rfl | rfl | rfl | rfl | rfl <;> (simp at hx; subst hx; rfl)) (World.ownsRow.lt hown.out rb (by simp [Value.ownBlock])).2 (by simp) (by
        have := hown.out
        rcases this.2 with ⟨h, _⟩ | ⟨g', cap', cur, h, _, _, hnc, _⟩
        · cases h
        · injection h with h1 h2 h3
          subst h3
          simpa using hnc) (by rw [ST.out]; simp [join_cat, catM]; omega))
    rw [ST.out] at JJ
    have EJ := Lib.hid (show Lib.join (([⟨(114 :: tr).toArray⟩, ⟨#[105, 110]⟩, ⟨tt.toArray⟩, ⟨#[108, 105, 109, 105, 116]⟩, ⟨tl.toArray⟩, ⟨#[99, 111, 115, 116]⟩, ⟨tc.toArray⟩, ⟨#[113, 117, 111, 116, 97]⟩, ⟨tq.toArray⟩] : List ByteArray).map (·.data.toList)) (⟨#[32]⟩ : ByteArray).data.toList = catM tr tt tl tc tq by simp [join_cat])
    rw [EJ.out] at JJ
    go_wp2_with fail
    refine JJ.out.mono ?_
    rintro e u9 ⟨rfl, d9⟩
    have D10 := Lib.hid (step D9.out d9)
    clear d9
    go_wp2
    go_ret
    exact ⟨ret_str EY.out.symm, D10.out⟩

theorem impl_FormatMethod (r : Int) (xs : List Int) (li co qu : Int) (A : Option Addr) (c : Nat) (hl : xs.length ≤ 1048576) (w : World) (h : RI w A xs) (ht : TabB w) :
    Calls Tryd.prog 8 #[.agg #[.int .i64 r, .slice A xs.length c, .int .i64 li, .int .i64 co, .int .i64 qu]] w fun e w' => e = .returned (.string (fmtM r xs li co qu)) ∧ Below w.heap.size w w' := by
  cases hg : (inB r 0 2 && inpB 3 xs && numB li co qu)
  · exact impl_FormatMethod_no r xs li co qu A c hg hl w h
  · simp only [Bool.and_eq_true] at hg
    exact impl_FormatMethod_yes r xs li co qu A c hg.1.1 hg.1.2 hg.2 hl w h ht
end Go.Proofs.YtenondgjipmhnaaDoor
