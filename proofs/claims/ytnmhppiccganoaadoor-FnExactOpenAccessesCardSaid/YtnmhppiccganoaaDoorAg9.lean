/- What the model's l8Lists returns. Conditions: none beyond each theorem's own. What the functions on a query's variables and constants answer. Conditions: none beyond each theorem's own. What the functions on a query's variables and constants answer. Conditions: none beyond each theorem's own. What the laws of functions on queries carry from call to call. Conditions: none beyond each theorem's own. What the functions on a query's head and on queries answer. Conditions: none beyond each theorem's own. -/
import Derived.Test.YtnmhppiccganoaaDoorAg7
import Derived.Deep.RegionLaw
import Derived.Deep.DeepCutAuto
import Derived.Test.YtnmhppiccganoaaDoorAg6
import Derived.Test.YtnmhppiccganoaaDoorAg1

namespace Go.Proofs.YtnmhppiccganoaaDoor
open Go.ChangeShapes Go.WideShapes Go.ChangeAt Go.RowKit Go.Sort
set_option linter.unusedVariables false
set_option linter.unusedSimpArgs false

theorem lists_startS (w : World) : OwnCT ((w.alloc (.cells #[] 3)).alloc (.cells #[.slice (some ⟨w.heap.size, 0, none⟩) 0 0] 22)) w.heap.size ((w.alloc (.cells #[] 3)).alloc (.cells #[.slice (some ⟨w.heap.size, 0, none⟩) 0 0] 22)).heap.size (.slice (some ⟨(w.alloc (.cells #[] 3)).heap.size, 0, none⟩) 1 1) [[]] [.slice (some ⟨w.heap.size, 0, none⟩) 0 0] (fun _ => 0) := by
  refine ⟨ownsRow_low (World.ownsRow_lit (w.alloc (.cells #[] 3)) #[.slice (some ⟨w.heap.size, 0, none⟩) 0 0] 1 (Nat.le_refl _) (by unfold maxLen; omega) rfl) (by rw [al_size]; omega), rfl, fun k hk => ?_, fun i j h1 h2 => by simp at h2; omega⟩
  have : k = 0 := by simpa using hk
  subst this
  exact ⟨_, rfl, _, 0, rfl, Nat.le_refl _, by unfold maxLen; omega, fun h => absurd h (by simp)⟩
def lsTab (xs : List Int) (v : Int) : Nat → Option (List Int)
  | 1 => some [] | 6 => some xs | 11 => some [v] | 12 => some (xs ++ [v]) | _ => none
def lsCons : Nat → Nat
  | 1 => 6 | 6 => 12 | 11 => 12 | 12 => 16 | _ => 16
def lsVals (ov lv : Value) (m : Nat) (pl xv av : Value) (j : Nat) (pa vv : Value) : Nat → Option Value
  | 0 => some ov | 2 => some lv | 3 => some (.int .i64 m) | 4 => some pl | 5 => some xv | 7 => some av | 8 => some (.int .i64 j) | 9 => some pa | 10 => some vv | _ => none
/-- Where the region stands: the row of lists is not yet, or already, grown. -/
structure LsJ (xs : List Int) (v : Int) (vals : Nat → Option Value) (lo : Nat) (ts : TL) (ov : Value) (w0 : World) (listed : Array Bool) (T : Nat → Value) (S : Value) (u : World) : Prop where
  early : listed.getD 14 false = false → RInv (lsTab xs v) lsCons vals w0 listed T u
  one : listed.getD 14 false = false → listed.getD 13 false = true → ∃ g, T 13 = .slice (some ⟨g, 0, none⟩) 1 1 ∧ u.heap[g]? = some (.cells #[T 12] 22 (0, 0))
  late : listed.getD 14 false = true → ∃ A c cs bs, T 14 = .slice A (ts.length + 1) c ∧ OwnCT u lo u.heap.size (.slice A (ts.length + 1) c) (ts ++ [xs ++ [v]]) cs bs ∧ Below lo w0 u
  here : listed.getD 15 false = false → S = ov
  set : listed.getD 15 false = true → S = T 14

set_option maxRecDepth 100000 in
set_option maxHeartbeats 8000000 in
theorem l8Lists_any (A : Option Addr) (c : Nat) (vs : List Int) (n : Nat) (hv : vs.length ≤ 10) (hn : n ≤ 3) (w : World) (h : RI w A vs) :
    Calls Tryd.prog 45 #[.slice A vs.length c, .int .i64 n] w (AddOutT w (lst vs n)) := by
  obtain ⟨i0, hi, hz0, hz1, hz2⟩ := info_parts int_info
  obtain ⟨j0, ji, jz0, jz1, jz2⟩ := info_parts ints_info
  have HI := Lib.hid h
  have ST := Lib.hid (lists_startS w)
  have hnn : (n : Int) ≤ 3 := by omega
  clear h
  go_enter Tryd.func45, Tryd.ntmps45
  go_wp2
  go_loopw [5, 6, 7, 8, 9] (fun o i _ _ _ wr => ∃ (k : Nat) (A2 : Option Addr) (c2 : Nat) (cs : List Value) (bs : Nat → Nat), k ≤ n ∧ i = .int .i64 k ∧ o = .slice A2 (lst vs k).length c2 ∧ Hid (OwnCT wr w.heap.size wr.heap.size (.slice A2 (lst vs k).length c2) (lst vs k) cs bs) ∧ Hid (Below w.heap.size w wr)) (fun _ i _ _ _ _ => n - (intOf i).toNat)
  case atStart => exact ⟨0, some ⟨w.heap.size + 1, 0, none⟩, 1, _, _, by omega, rfl, rfl, by have := ST.out; rw [al_size, al_size] at this; exact Lib.hid (by rw [al_size, al_size]; exact this), Lib.hid (step (below_alloc _ _) (below_alloc _ _))⟩
  case round =>
    obtain ⟨k, A2, c2, cs, bs, hk, rfl, rfl, hO, hB⟩ := hrel
    have hk0 : (0 : Int) ≤ (k : Int) := by omega
    by_cases hlt : k < n
    · have hk1 : (k : Int) < (n : Int) := by omega
      have hL := lst_le hv (show k ≤ 3 by omega)
      have EL := Lib.hid (show lst vs (k + 1) = (lst vs k).flatMap (ext1 vs) from rfl)
      have ELM := Lib.hid fun l (hl : l ∈ lst vs k) => (lst_elem vs k l hl).1
      generalize lst vs k = L at hO hL EL ELM
      have hL' : (L.length : Int) ≤ 1000 := by omega
      have hB0 := hB.out.size
      generalize wr = wo at *
      have hs0 : wo.heap.size ≤ (wo.alloc (.cells #[] 22)).heap.size := by rw [al_size]; omega
      have ON := Lib.hid (show OwnCT (wo.alloc (.cells #[] 22)) wo.heap.size (wo.alloc (.cells #[] 22)).heap.size (.slice (some ⟨wo.heap.size, 0, none⟩) 0 0) [] [] (fun _ => 0) from ⟨World.ownsRow_lit _ #[] 0 (Nat.le_refl _) (by unfold maxLen; omega) rfl, ItemsT.nil _ _ _⟩)
      go_wp2
      go_loopw [7, 8, 9] (fun o i _ wr2 => ∃ (m : Nat) (A3 : Option Addr) (c3 : Nat) (out : TL) (cs3 : List Value) (bs3 : Nat → Nat), m ≤ L.length ∧ i = .int .i64 m ∧ o = .slice A3 out.length c3 ∧ Hid (out = (L.take m).flatMap (ext1 vs)) ∧ Hid (OwnCT wr2 wo.heap.size wr2.heap.size (.slice A3 out.length c3) out cs3 bs3) ∧ Hid (Below wo.heap.size wo wr2)) (fun _ i _ _ => L.length - (intOf i).toNat)
      case atStart => exact ⟨0, _, 0, [], [], fun _ => 0, by omega, rfl, rfl, Lib.hid (by simp), ON, Lib.hid (below_alloc _ _)⟩
      case round =>
        obtain ⟨m, A3, c3, out, cs3, bs3, hm, rfl, rfl, hE, hP, hD⟩ := hrel
        have hm0 : (0 : Int) ≤ (m : Int) := by omega
        by_cases hmt : m < L.length
        · have hm1 : (m : Int) < (L.length : Int) := by omega
          generalize hf : L.getD m [] = l
          have HL := Lib.hid (ELM.out l (getD_mem' hmt hf))
          have EE := Lib.hid (mid_end L vs hmt hf)
          have E0 := Lib.hid (show out = mid L vs m 0 l by rw [mid_start]; exact hE.out)
          have hll : l.length ≤ 1000 := by rw [HL.out]; omega
          obtain ⟨b, off, B, c4, rfl, nb, e0', _, _, hI⟩ := hO.out.rt.at_ hmt hf
          have HW := Lib.hid hI
          have E0' := Lib.hid e0'
          generalize wr = wm at *
          clear hf hI e0'
          go_wp2
          go_loopw [7, 9] (fun o i wr3 => ∃ (j : Nat) (A3 : Option Addr) (c3 : Nat) (out : TL) (cs3 : List Value) (bs3 : Nat → Nat), j ≤ vs.length ∧ i = .int .i64 j ∧ o = .slice A3 out.length c3 ∧ Hid (out = mid L vs m j l) ∧ Hid (OwnCT wr3 wo.heap.size wr3.heap.size (.slice A3 out.length c3) out cs3 bs3) ∧ Hid (Below wo.heap.size wo wr3)) (fun _ i _ => vs.length - (intOf i).toNat)
          case atStart => exact ⟨0, A3, c3, out, cs3, bs3, by omega, rfl, rfl, E0, hP, hD⟩
          case round =>
            obtain ⟨j, A3, c3, out, cs3, bs3, hj, rfl, rfl, hE, hP, hD⟩ := hrel
            have hj0 : (0 : Int) ≤ (j : Int) := by omega
            by_cases hjt : j < vs.length
            · have hj1 : (j : Int) < (vs.length : Int) := by omega
              have hbs := hD.out.size
              obtain ⟨b2, off2, rfl, nb2, hc2⟩ := ((HI.out.step hB.out).step hD.out).at_ hjt
              have e0 := (hD.out.cell (p := ⟨b, off + m, none⟩) nb).trans E0'.out
              generalize hx : vs.getD j 0 = x at hc2
              have E2 := Lib.hid (show mid L vs m (j + 1) l = out ++ [l ++ [x]] by rw [mid_push L vs m l hjt hx, hE.out])
              have hol := mid_le hv hL m j l
              rw [← hE.out] at hol
              have hrl := Lib.hid (HW.out.step hD.out)
              clear hx
              have hbw : b < wr.heap.size := by omega
              generalize wr = w0 at *
              go_upto_region 12 with fail
              refine wp_region_inv rfl (by kernel_rfl) (fun listed a u => ∃ (T : Nat → Value) (S : Value), a = (⟨#[Value.slice (some ⟨b2, off2, none⟩) vs.length c, Value.int .i64 n, undef, undef, Value.slice none 0 0, Value.slice (some ⟨b, off, none⟩) L.length c2, Value.int .i64 k, S, Value.int .i64 m, Value.int .i64 j, Value.slice (some ⟨w.heap.size, 0, none⟩) 0 0, Value.slice (some ⟨w.heap.size + 1, 0, none⟩) 1 1, Value.int .i64 k, Value.int .i64 n, Value.bool true, u15, u16, Value.slice (some ⟨wo.heap.size, 0, none⟩) 0 0, Value.int .i64 m, Value.slice (some ⟨b, off, none⟩) L.length c2, Value.int .i64 L.length, Value.bool true, u22, u23, Value.int .i64 j, Value.slice (some ⟨b2, off2, none⟩) vs.length c, Value.int .i64 vs.length, Value.bool true, u28, u29, (T 0), (T 1), (T 2), (T 3), (T 4), (T 5), (T 6), (T 7), (T 8), (T 9), (T 10), (T 11), (T 12), (T 13), (T 14), u45, undef], []⟩ : Act) ∧ LsJ l x (lsVals (.slice A3 out.length c3) (.slice (some ⟨b, off, none⟩) L.length c2) m (.pointer (some ⟨b, off + m, none⟩)) (.slice B l.length c4) (.slice (some ⟨b2, off2, none⟩) vs.length c) j (.pointer (some ⟨b2, off2 + j, none⟩)) (.int .i64 x)) wo.heap.size out (.slice A3 out.length c3) w0 listed T S u) ?_ ?_ ?_
              · refine ⟨fun i => (#[u30, u31, u32, u33, u34, u35, u36, u37, u38, u39, u40, u41, u42, u43, u44] : Array Value).getD i undef, _, rfl, fun _ => RInv.start _, fun _ h => absurd h (by decide), fun h => absurd h (by decide), fun _ => rfl, fun h => absurd h (by decide)⟩
              · rintro listed a u i hi' hz hc ⟨T, S, rfl, J⟩
                have hlt' : i < 16 := ready_lt hi'
                have hs : i < listed.size := by rw [hz]; exact ready_lt hi'
                have hn' := ready_new hi' hz
                have n15 : listed.getD 15 false = false := by
                  obtain rfl | rfl | rfl | rfl | rfl | rfl | rfl | rfl | rfl | rfl | rfl | rfl | rfl | rfl | rfl | rfl : i = 0 ∨ i = 1 ∨ i = 2 ∨ i = 3 ∨ i = 4 ∨ i = 5 ∨ i = 6 ∨ i = 7 ∨ i = 8 ∨ i = 9 ∨ i = 10 ∨ i = 11 ∨ i = 12 ∨ i = 13 ∨ i = 14 ∨ i = 15 := by omega
                  all_goals first | exact hn' | exact not_yet hc hn' 6 15 (by kernel_rfl)
                have hS := J.here n15
                subst hS
                by_cases h14 : i = 15
                · subst h14
                  have d14 := ready_dep hi' (j := 14) (by kernel_rfl)
                  obtain ⟨A6, c6, cs6, bs6, e14, hF6, hb6⟩ := J.late d14
                  refine wpOp_plain rfl rfl (fun K' hK => ?_)
                  rw [e14]
                  go_simp
                  exact hK _ _ ⟨T, .slice A6 (out.length + 1) c6, by rw [e14], fun h => absurd h (by rw [getD_set hs, if_neg (by decide), d14]; decide), fun h => absurd h (by rw [getD_set hs, if_neg (by decide), d14]; decide), fun _ => ⟨A6, c6, cs6, bs6, e14, hF6, hb6⟩, fun h => absurd h (by rw [getD_set hs, if_pos rfl]; decide), fun _ => e14.symm⟩
                · have n14 : listed.getD 14 false = false := by
                    obtain rfl | rfl | rfl | rfl | rfl | rfl | rfl | rfl | rfl | rfl | rfl | rfl | rfl | rfl | rfl : i = 0 ∨ i = 1 ∨ i = 2 ∨ i = 3 ∨ i = 4 ∨ i = 5 ∨ i = 6 ∨ i = 7 ∨ i = 8 ∨ i = 9 ∨ i = 10 ∨ i = 11 ∨ i = 12 ∨ i = 13 ∨ i = 14 := by omega
                    all_goals first | exact hn' | exact not_yet hc hn' 6 14 (by kernel_rfl)
                  have I0 := J.early n14
                  by_cases hlt13 : i < 13
                  · have key : ∀ (v : Value) (u' : World), RInv (lsTab l x) lsCons (lsVals (.slice A3 out.length c3) (.slice (some ⟨b, off, none⟩) L.length c2) m (.pointer (some ⟨b, off + m, none⟩)) (.slice B l.length c4) (.slice (some ⟨b2, off2, none⟩) vs.length c) j (.pointer (some ⟨b2, off2 + j, none⟩)) (.int .i64 x)) w0 (listed.setIfInBounds i true) (upd T i v) u' → (i = 0 → u' = u) → ∀ a', a' = (⟨#[Value.slice (some ⟨b2, off2, none⟩) vs.length c, Value.int .i64 n, undef, undef, Value.slice none 0 0, Value.slice (some ⟨b, off, none⟩) L.length c2, Value.int .i64 k, (.slice A3 out.length c3), Value.int .i64 m, Value.int .i64 j, Value.slice (some ⟨w.heap.size, 0, none⟩) 0 0, Value.slice (some ⟨w.heap.size + 1, 0, none⟩) 1 1, Value.int .i64 k, Value.int .i64 n, Value.bool true, u15, u16, Value.slice (some ⟨wo.heap.size, 0, none⟩) 0 0, Value.int .i64 m, Value.slice (some ⟨b, off, none⟩) L.length c2, Value.int .i64 L.length, Value.bool true, u22, u23, Value.int .i64 j, Value.slice (some ⟨b2, off2, none⟩) vs.length c, Value.int .i64 vs.length, Value.bool true, u28, u29, ((upd T i v) 0), ((upd T i v) 1), ((upd T i v) 2), ((upd T i v) 3), ((upd T i v) 4), ((upd T i v) 5), ((upd T i v) 6), ((upd T i v) 7), ((upd T i v) 8), ((upd T i v) 9), ((upd T i v) 10), ((upd T i v) 11), ((upd T i v) 12), ((upd T i v) 13), ((upd T i v) 14), u45, undef], []⟩ : Act) → ((fun listed a u => ∃ (T : Nat → Value) (S : Value), a = (⟨#[Value.slice (some ⟨b2, off2, none⟩) vs.length c, Value.int .i64 n, undef, undef, Value.slice none 0 0, Value.slice (some ⟨b, off, none⟩) L.length c2, Value.int .i64 k, S, Value.int .i64 m, Value.int .i64 j, Value.slice (some ⟨w.heap.size, 0, none⟩) 0 0, Value.slice (some ⟨w.heap.size + 1, 0, none⟩) 1 1, Value.int .i64 k, Value.int .i64 n, Value.bool true, u15, u16, Value.slice (some ⟨wo.heap.size, 0, none⟩) 0 0, Value.int .i64 m, Value.slice (some ⟨b, off, none⟩) L.length c2, Value.int .i64 L.length, Value.bool true, u22, u23, Value.int .i64 j, Value.slice (some ⟨b2, off2, none⟩) vs.length c, Value.int .i64 vs.length, Value.bool true, u28, u29, (T 0), (T 1), (T 2), (T 3), (T 4), (T 5), (T 6), (T 7), (T 8), (T 9), (T 10), (T 11), (T 12), (T 13), (T 14), u45, undef], []⟩ : Act) ∧ LsJ l x (lsVals (.slice A3 out.length c3) (.slice (some ⟨b, off, none⟩) L.length c2) m (.pointer (some ⟨b, off + m, none⟩)) (.slice B l.length c4) (.slice (some ⟨b2, off2, none⟩) vs.length c) j (.pointer (some ⟨b2, off2 + j, none⟩)) (.int .i64 x)) wo.heap.size out (.slice A3 out.length c3) w0 listed T S u) (listed.setIfInBounds i true) a' u') := by
                      intro v u' hr h0 a' ha
                      refine ⟨upd T i v, _, ha, fun _ => hr, fun _ h13 => ?_, fun h => absurd h (by rw [getD_set hs, if_neg (by omega), n14]; decide), fun _ => rfl, fun h => absurd h (by rw [getD_set hs, if_neg (by omega), n15]; decide)⟩
                      rw [getD_set hs, if_neg (by omega)] at h13
                      by_cases e0 : i = 0
                      · subst e0
                        obtain ⟨g, e13, hg⟩ := J.one n14 h13
                        exact ⟨g, by rw [upd_ne (by decide)]; exact e13, by rw [h0 rfl, upd_ne (by decide)]; exact hg⟩
                      · have n13 : listed.getD 13 false = false := by
                          obtain rfl | rfl | rfl | rfl | rfl | rfl | rfl | rfl | rfl | rfl | rfl | rfl : i = 1 ∨ i = 2 ∨ i = 3 ∨ i = 4 ∨ i = 5 ∨ i = 6 ∨ i = 7 ∨ i = 8 ∨ i = 9 ∨ i = 10 ∨ i = 11 ∨ i = 12 := by omega
                          all_goals exact not_yet hc hn' 6 13 (by kernel_rfl)
                        rw [n13] at h13
                        cases h13
                    obtain rfl | rfl | rfl | rfl | rfl | rfl | rfl | rfl | rfl | rfl | rfl | rfl | rfl : i = 0 ∨ i = 1 ∨ i = 2 ∨ i = 3 ∨ i = 4 ∨ i = 5 ∨ i = 6 ∨ i = 7 ∨ i = 8 ∨ i = 9 ∨ i = 10 ∨ i = 11 ∨ i = 12 := by omega
                    · refine wpOp_plain rfl rfl (fun K' hK => ?_)
                      go_simp
                      exact hK _ _ (key _ _ (I0.quiet hs (Below.refl _ _) rfl (by rintro x ⟨⟩; rfl)) (fun _ => rfl) _ rfl)
                    · refine wpOp_plain rfl rfl (fun K' hK => ?_)
                      go_simp
                      exact hK _ _ (key _ _ (I0.fresh hs (below_alloc _ _) rfl rfl (World.ownsRow_lit _ #[] 0 (Nat.le_refl _) (by unfold maxLen; omega) rfl)) (fun h => absurd h (by decide)) _ rfl)
                    · refine wpOp_plain rfl rfl (fun K' hK => ?_)
                      go_simp
                      exact hK _ _ (key _ _ (I0.quiet hs (Below.refl _ _) rfl (by rintro x ⟨⟩; rfl)) (fun _ => rfl) _ rfl)
                    · refine wpOp_plain rfl rfl (fun K' hK => ?_)
                      go_simp
                      exact hK _ _ (key _ _ (I0.quiet hs (Below.refl _ _) rfl (by rintro x ⟨⟩; rfl)) (fun _ => rfl) _ rfl)
                    · refine wpOp_plain rfl rfl (fun K' hK => ?_)
                      have e2 := I0.val (ready_dep hi' (j := 2) (by kernel_rfl)) rfl
                      have e3 := I0.val (ready_dep hi' (j := 3) (by kernel_rfl)) rfl
                      rw [e2, e3]
                      go_simp
                      exact hK _ _ (key (.pointer (some ⟨b, off + m, none⟩)) _ (I0.quiet hs (Below.refl _ _) rfl (by rintro x ⟨⟩; rfl)) (fun _ => rfl) _ (by simp [upd, e2, e3]))
                    · refine wpOp_plain rfl rfl (fun K' hK => ?_)
                      have e4 := I0.val (ready_dep hi' (j := 4) (by kernel_rfl)) rfl
                      have hx := (I0.below.cell (p := ⟨b, off + m, none⟩) hbw).trans e0
                      rw [e4]
                      go_simp
                      exact hK _ _ (key (.slice B l.length c4) _ (I0.quiet hs (Below.refl _ _) rfl (by rintro x ⟨⟩; rfl)) (fun _ => rfl) _ (by simp [upd, e4]))
                    · refine wpOp_plain rfl rfl (fun K' hK => ?_)
                      have e5 := I0.val (ready_dep hi' (j := 5) (by kernel_rfl)) rfl
                      have hl := live_here (tab := lsTab l x) (cons := lsCons) (ready_dep hi' (j := 1) (by kernel_rfl)) hn' rfl
                      refine opwp_append_row (.tmp 31) (.tmp 35) rfl w0.heap.size (T 1) [] rfl (I0.own.row 1 [] hl) B c4 l e5 (hrl.out.step I0.below) (by simp; omega) I0.below.size ?_
                      intro v' w' r1 r2 r3
                      exact hK _ _ (key v' w' (I0.grow hs hl rfl rfl rfl r1 r2 r3) (fun h => absurd h (by decide)) _ rfl)
                    · refine wpOp_plain rfl rfl (fun K' hK => ?_)
                      go_simp
                      exact hK _ _ (key _ _ (I0.quiet hs (Below.refl _ _) rfl (by rintro x ⟨⟩; rfl)) (fun _ => rfl) _ rfl)
                    · refine wpOp_plain rfl rfl (fun K' hK => ?_)
                      go_simp
                      exact hK _ _ (key _ _ (I0.quiet hs (Below.refl _ _) rfl (by rintro x ⟨⟩; rfl)) (fun _ => rfl) _ rfl)
                    · refine wpOp_plain rfl rfl (fun K' hK => ?_)
                      have e7 := I0.val (ready_dep hi' (j := 7) (by kernel_rfl)) rfl
                      have e8 := I0.val (ready_dep hi' (j := 8) (by kernel_rfl)) rfl
                      rw [e7, e8]
                      go_simp
                      exact hK _ _ (key (.pointer (some ⟨b2, off2 + j, none⟩)) _ (I0.quiet hs (Below.refl _ _) rfl (by rintro x ⟨⟩; rfl)) (fun _ => rfl) _ (by simp [upd, e7, e8]))
                    · refine wpOp_plain rfl rfl (fun K' hK => ?_)
                      have e9 := I0.val (ready_dep hi' (j := 9) (by kernel_rfl)) rfl
                      have hx := (I0.below.cell (p := ⟨b2, off2 + j, none⟩) nb2).trans hc2
                      rw [e9]
                      go_simp
                      exact hK _ _ (key (.int .i64 x) _ (I0.quiet hs (Below.refl _ _) rfl (by rintro x ⟨⟩; rfl)) (fun _ => rfl) _ (by simp [upd, e9]))
                    · refine wpOp_plain rfl rfl (fun K' hK => ?_)
                      have e10 := I0.val (ready_dep hi' (j := 10) (by kernel_rfl)) rfl
                      rw [e10]
                      go_simp
                      exact hK _ _ (key _ _ (I0.fresh hs (below_alloc _ _) rfl rfl (World.ownsRow_lit _ #[.int .i64 x] 1 (Nat.le_refl _) (by unfold maxLen; omega) rfl)) (fun h => absurd h (by decide)) _ (by simp [upd, e10]))
                    · refine wpOp_plain rfl rfl (fun K' hK => ?_)
                      have hl := live_here (tab := lsTab l x) (cons := lsCons) (ready_dep hi' (j := 6) (by kernel_rfl)) hn' rfl
                      have hl2 := live_here (tab := lsTab l x) (cons := lsCons) (ready_dep hi' (j := 11) (by kernel_rfl)) hn' rfl
                      have r5 := I0.own.row 11 [x] hl2
                      obtain ⟨X5, c5, e5⟩ := r5.form
                      rw [e5] at r5
                      refine opwp_append_row (.tmp 36) (.tmp 41) rfl w0.heap.size (T 6) l rfl (I0.own.row 6 l hl) X5 c5 [x] e5 (ri_of_row r5) (by simp; omega) I0.below.size ?_
                      intro v' w' r1 r2 r3
                      exact hK _ _ (key v' w' (I0.grow hs hl rfl rfl rfl r1 r2 r3) (fun h => absurd h (by decide)) _ rfl)
                  · have l12 : listed.getD 12 false = true := by
                      obtain rfl | rfl : i = 13 ∨ i = 14 := by omega
                      · exact ready_dep hi' (j := 12) (by kernel_rfl)
                      · exact closed_reach hc 0 13 12 (by kernel_rfl) (ready_dep hi' (j := 13) (by kernel_rfl))
                    have r12 := I0.own.row 12 (l ++ [x]) (live_here l12 (by
                      have e : (lsCons 12) = 16 := rfl
                      rw [e]
                      simp [Array.getD, hz]) rfl)
                    obtain ⟨X5, c5, e12⟩ := r12.form
                    obtain rfl | rfl : i = 13 ∨ i = 14 := by omega
                    · refine wpOp_plain rfl rfl (fun K' hK => ?_)
                      rw [e12]
                      go_simp
                      refine hK _ _ ⟨upd T 13 (.slice (some ⟨u.heap.size, 0, none⟩) 1 1), _, by simp [upd, e12], fun _ => I0.quiet hs (below_alloc _ _) rfl (by rintro x ⟨⟩), fun _ _ => ⟨_, upd_same _ _ _, ?_⟩, fun h => absurd h (by rw [getD_set hs, if_neg (by decide), n14]; decide), fun _ => rfl, fun h => absurd h (by rw [getD_set hs, if_neg (by decide), n15]; decide)⟩
                      rw [upd_ne (by decide), e12]
                      first | exact heap_alloc_new u _ | (simpa using heap_alloc_new u _)
                    · obtain ⟨g, e13, hg⟩ := J.one n14 (ready_dep hi' (j := 13) (by kernel_rfl))
                      have e0' := I0.val (ready_dep hi' (j := 0) (by kernel_rfl)) rfl
                      obtain ⟨q5, v5⟩ := r12.own
                      refine wpOp_plain rfl rfl (fun K' hK => ?_)
                      refine opwp_pushT (.tmp 30) (.tmp 43) 63 rfl j0 Tryd.underlying63 ji jz0 jz1 jz2 e0' e13 (hP.out.cur (Nat.le_refl _) I0.below) v5 hg hbs I0.below.size (by omega) ?_
                      intro v6 w6 cs6 bs6 hF6 hg6
                      have hb6 : Below wo.heap.size w0 w6 := (I0.below.mono hbs).trans (below_grown (hP.out.cur (Nat.le_refl _) I0.below).1 hg6 (Nat.le_refl _) (by have := I0.below.size; omega))
                      obtain ⟨A6, c6, rfl⟩ := hF6.form
                      rw [List.length_append] at hF6
                      exact hK _ _ ⟨upd T 14 (.slice A6 (out.length + 1) c6), _, by rw [List.length_append]; rfl, fun h => absurd h (by rw [getD_set hs, if_pos rfl]; decide), fun h => absurd h (by rw [getD_set hs, if_pos rfl]; decide), fun _ => ⟨A6, c6, cs6, bs6, upd_same _ _ _, hF6, hb6⟩, fun _ => rfl, fun h => absurd h (by rw [getD_set hs, if_neg (by decide), n15]; decide)⟩
              · rintro listed a u hz hall ⟨T, S, rfl, J⟩
                obtain ⟨A6, c6, cs6, bs6, e14, hF6, hb6⟩ := J.late (hall 14 (by decide))
                have eS := J.set (hall 15 (by decide))
                rw [e14] at eS
                subst eS
                have F6 := Lib.hid hF6
                have B6 := Lib.hid (hD.out.trans hb6)
                clear J hF6 hb6 e14
                go_wp2
                go_roundw
                case rel => exact ⟨j + 1, A6, c6, out ++ [l ++ [x]], cs6, bs6, by omega, by go_num, by rw [List.length_append]; rfl, Lib.hid E2.out.symm, by rw [List.length_append]; exact F6, B6⟩
                case measure => simp [intOf]; omega
            · obtain rfl : j = vs.length := by omega
              have E2 := Lib.hid (show out = (L.take (m + 1)).flatMap (ext1 vs) by rw [← EE.out]; exact hE.out)
              go_wp2
              go_roundw
              case rel => exact ⟨m + 1, A3, c3, out, cs3, bs3, by omega, by go_num, rfl, E2, hP, hD⟩
              case measure => simp [intOf]; omega
        · obtain rfl : m = L.length := by omega
          have E2 := Lib.hid (show out = lst vs (k + 1) by rw [EL.out, hE.out, take_all])
          go_wp2
          go_roundw
          case rel => exact ⟨k + 1, A3, c3, cs3, bs3, by omega, by go_num, by rw [← E2.out], Lib.hid (by rw [← E2.out]; exact hP.out.lo hB0), Lib.hid (hB.out.trans (hD.out.mono hB0))⟩
          case measure => simp [intOf]; omega
    · obtain rfl : k = n := by omega
      go_wp2
      go_ret
      exact ⟨A2, c2, cs, bs, rfl, hO.out, hB.out⟩
end Go.Proofs.YtnmhppiccganoaaDoor

namespace Go.Proofs.YtnmhppiccganoaaDoor
open Go.ChangeShapes Go.WideShapes Go.ChangeAt Go.RowKit Go.Sort
open Go.Deep (BT)
set_option linter.unusedVariables false
set_option linter.unusedSimpArgs false

/-- All terms of the atoms, in their order. -/
def terms (l : FL) : List Int := l.flatMap fun f => f.2
/-- Those from a to b, once each, ascending. -/
def wl (a b : Int) (ys : List Int) : List Int := (ys.filter fun x => inB x a b).foldl putI []
theorem wl_yes {a b x : Int} (ys : List Int) (h : inB x a b = true) : wl a b (ys ++ [x]) = putI (wl a b ys) x := by simp [wl, List.filter_append, h]
theorem wl_no {a b x : Int} (ys : List Int) (h : inB x a b = false) : wl a b (ys ++ [x]) = wl a b ys := by simp [wl, List.filter_append, h]
theorem foldl_asc : ∀ (ys acc : List Int), Asc acc → Asc (ys.foldl putI acc)
  | [], _, h => h
  | y :: ys, acc, h => foldl_asc ys _ (putI_asc h)
theorem wl_asc (a b : Int) (ys : List Int) : Asc (wl a b ys) := foldl_asc _ [] List.Pairwise.nil
theorem foldl_mem : ∀ (ys acc : List Int) (x : Int), x ∈ ys.foldl putI acc ↔ x ∈ ys ∨ x ∈ acc
  | [], _, _ => by simp
  | y :: ys, acc, x => by
    rw [List.foldl_cons, foldl_mem ys, putI_mem, List.mem_cons]
    constructor
    · rintro (h | h | h)
      · exact .inl (.inr h)
      · exact .inl (.inl h)
      · exact .inr h
    · rintro ((h | h) | h)
      · exact .inr (.inl h)
      · exact .inl h
      · exact .inr (.inr h)
theorem wl_mem (a b : Int) (ys : List Int) (x : Int) : x ∈ wl a b ys ↔ x ∈ ys ∧ inB x a b = true := by
  unfold wl
  rw [foldl_mem]
  simp
theorem asc_len : ∀ (l : List Int) (a b : Int), Asc l → (∀ x ∈ l, a ≤ x ∧ x ≤ b) → l.length ≤ (b - a + 1).toNat
  | [], a, b, _, _ => by simp
  | y :: ys, a, b, h, hr => by
    have h1 : (∀ c ∈ ys, y < c) ∧ Asc ys := by simpa [Asc, List.pairwise_cons] using h
    have h2 := asc_len ys (y + 1) b h1.2 fun x hx => ⟨by have := h1.1 x hx; omega, (hr x (by simp [hx])).2⟩
    have h3 := hr y (by simp)
    rw [List.length_cons]
    omega
theorem wl_len (a b : Int) (ys : List Int) : (wl a b ys).length ≤ (b - a + 1).toNat := asc_len _ a b (wl_asc a b ys) fun x hx => by
  have := ((wl_mem a b ys x).1 hx).2
  simpa [inB] using this
theorem terms_take (l : FL) {k : Nat} (hk : k < l.length) {r : Int} {xs : List Int} (hf : l.getD k (0, []) = (r, xs)) : terms (l.take (k + 1)) = terms (l.take k) ++ xs := by
  unfold terms
  rw [List.take_succ_eq_append_getElem hk, List.flatMap_append]
  have : l[k] = l.getD k (0, []) := by simp [List.getD_eq_getElem?_getD, hk]
  rw [this, hf]
  simp
theorem len_hid {a b : Int} {out ys : List Int} (h : out = wl a b ys) (hab : b - a + 1 ≤ 1000) : out.length ≤ 1000 := by
  have := wl_len a b ys
  rw [h]; omega

end Go.Proofs.YtnmhppiccganoaaDoor

namespace Go.Proofs.YtnmhppiccganoaaDoor
open Go.ChangeShapes Go.WideShapes Go.ChangeAt Go.RowKit Go.Sort
open Go.Deep (BT)
set_option linter.unusedVariables false
set_option linter.unusedSimpArgs false

end Go.Proofs.YtnmhppiccganoaaDoor

namespace Go.Proofs.YtnmhppiccganoaaDoor
open Go.ChangeShapes Go.WideShapes Go.ChangeAt Go.RowKit Go.Sort
open Go.Proofs.YtnmhppiccganoaaDoor.atom
set_option linter.unusedVariables false
set_option linter.unusedSimpArgs false

/-- Numbers in blocks from lo to below hi, whatever is made later. -/
def IV (w : World) (lo hi : Nat) (A : Option Addr) (xs : List Int) : Prop := Ints w lo hi A xs ∧ hi ≤ w.heap.size
theorem IV.step {w w' : World} {lo hi : Nat} {A : Option Addr} {xs : List Int} (h : IV w lo hi A xs) (d : Below w.heap.size w w') : IV w' lo hi A xs := ⟨h.1.below d h.2, Nat.le_trans h.2 d.size⟩
theorem IV.keep {w w' : World} {lo hi : Nat} {A : Option Addr} {xs : List Int} (h : IV w lo hi A xs) (hk : ∀ b, lo ≤ b → b < hi → w'.heap[b]? = w.heap[b]?) (hz : w.heap.size ≤ w'.heap.size) : IV w' lo hi A xs := ⟨h.1.keep hk, Nat.le_trans h.2 hz⟩
theorem IV.ri {w : World} {lo hi : Nat} {A : Option Addr} {xs : List Int} (h : IV w lo hi A xs) : RI w A xs := h.1.mono (Nat.zero_le _) h.2
/-- Numbers of the call's own, in blocks from lo to below hi, whatever is made later. -/
def GV (w : World) (lo hi : Nat) (A : Option Addr) (c : Nat) (xs : List Int) : Prop := (∃ q, OwnV w lo hi (.slice A xs.length c) q xs) ∧ hi ≤ w.heap.size ∧ lo ≤ hi
theorem GV.keep {w w' : World} {lo hi : Nat} {A : Option Addr} {c : Nat} {xs : List Int} (h : GV w lo hi A c xs) (hk : ∀ b, lo ≤ b → b < hi → w'.heap[b]? = w.heap[b]?) (hz : w.heap.size ≤ w'.heap.size) : GV w' lo hi A c xs := by
  obtain ⟨⟨q, h1⟩, h2, h3⟩ := h
  exact ⟨⟨q, h1.keep fun a b _ => hk _ a b⟩, Nat.le_trans h2 hz, h3⟩
theorem GV.step {w w' : World} {lo hi : Nat} {A : Option Addr} {c : Nat} {xs : List Int} (h : GV w lo hi A c xs) (d : Below w.heap.size w w') : GV w' lo hi A c xs :=
  h.keep (fun b _ hb => d.block b (by have := h.2.1; omega)) d.size
theorem GV.ri {w : World} {lo hi : Nat} {A : Option Addr} {c : Nat} {xs : List Int} (h : GV w lo hi A c xs) : RI w A xs := by
  obtain ⟨⟨q, h1⟩, h2, h3⟩ := h
  exact (h1.ints).2.2.2.mono (Nat.zero_le _) h2

/-- What a function that lists numbers returns, as its blocks. -/
def ListG (w : World) (xs : List Int) (e : Ending) (w' : World) : Prop := ∃ A c, e = .returned (.slice A xs.length c) ∧ GV w' w.heap.size w'.heap.size A c xs ∧ Below w.heap.size w w'
theorem ListT.toG {w : World} {xs : List Int} {e : Ending} {w' : World} (h : ListT w xs e w') : ListG w xs e w' := by
  obtain ⟨v, he, ho, hb⟩ := h
  obtain ⟨A, c, rfl⟩ := ownsRow_form ho
  obtain ⟨q, hv⟩ := ownV_of_row ho
  exact ⟨A, c, he, ⟨⟨q, hv⟩, Nat.le_refl _, hb.size⟩, hb⟩
theorem PutO.toV {w : World} {xs : List Int} {e : Ending} {w' : World} (h : PutO w w.heap.size xs e w') : ∃ A c, e = .returned (.slice A xs.length c) ∧ IV w' w.heap.size w'.heap.size A xs ∧ Below w.heap.size w w' := by
  obtain ⟨A, c, he, hi, hb⟩ := h
  exact ⟨A, c, he, ⟨hi, Nat.le_refl _⟩, hb⟩
theorem markIntS_g (lo hi : Nat) (A : Option Addr) (c : Nat) (xs : List Int) (hl : xs.length ≤ 1048576) (w : World) (h : GV w lo hi A c xs) :
    Calls Tryd.prog 15 #[.slice A xs.length c, .int .i64 1] w fun e w' => e = .returned (.int .i64 (1 + xs.length)) ∧ Within lo hi w w' ∧ IV w' lo hi A (marks 1 xs.length) := by
  obtain ⟨⟨q, h1⟩, h2, h3⟩ := h
  refine (markIntS_own lo hi q A c 1 xs hl (by omega) (by omega) w h2 h3 h1).mono ?_
  rintro e w' ⟨rfl, hw, hi'⟩
  exact ⟨rfl, hw, hi', by rw [hw.size]; exact h2⟩
theorem heldIntS_g (lo hi : Nat) (A : Option Addr) (c n : Nat) (hl : n ≤ 1048576) (w : World) (h : IV w lo hi A (marks 1 n)) :
    Calls Tryd.prog 39 #[.slice A n c, .int .i64 1] w fun e w' => e = .returned (.int .i64 (1 + n)) ∧ w = w' := heldIntS_any lo hi A c n 1 w hl (by omega) (by omega) h.1
end Go.Proofs.YtnmhppiccganoaaDoor

namespace Go.Proofs.YtnmhppiccganoaaDoor
open Go.ChangeShapes Go.WideShapes Go.ChangeAt Go.RowKit Go.Sort
open Go.Proofs.YtnmhppiccganoaaDoor.atom
set_option linter.unusedVariables false
set_option linter.unusedSimpArgs false

/-- Are all numbers of the head among vs? -/
def inAll (vs hs : List Int) : Bool := hs.all fun x => decide (x ∈ vs)
theorem inAll_take (vs hs : List Int) (k : Nat) (hk : k < hs.length) : inAll vs (hs.take (k + 1)) = (inAll vs (hs.take k) && decide (hs.getD k 0 ∈ vs)) := by
  unfold inAll
  rw [List.take_succ_eq_append_getElem hk, List.all_append]
  simp [List.getD_eq_getElem?_getD, hk]
theorem inAll_not (vs hs : List Int) (k : Nat) (hk : k < hs.length) (h : decide (hs.getD k 0 ∈ vs) = false) : inAll vs hs = false := by
  unfold inAll
  rw [List.all_eq_false]
  refine ⟨hs[k], List.getElem_mem _, ?_⟩
  have : hs.getD k 0 = hs[k] := by simp [List.getD_eq_getElem?_getD, hk]
  rw [this] at h
  simp [h]
/-- Is hs a head for the atoms l? -/
def headB (hs : List Int) (l : FL) : Bool := decide (hs.length ≤ 3) && inAll (wl 10 17 (terms l)) hs

/-- A place of x in v, or a negative number. -/
def IdxOut (w : World) (v : List Int) (x : Int) (e : Ending) (w' : World) : Prop := (∃ n : Int, e = .returned (.int .i64 n) ∧ decide (0 ≤ n) = decide (x ∈ v)) ∧ w = w'

end Go.Proofs.YtnmhppiccganoaaDoor
