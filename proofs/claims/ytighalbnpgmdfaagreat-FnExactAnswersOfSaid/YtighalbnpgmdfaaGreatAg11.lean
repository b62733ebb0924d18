/- What spec.AddTuple answers. Conditions: none beyond each theorem's own. -/
import Derived.Test.YtighalbnpgmdfaaGreatTupO
import Derived.Test.YtighalbnpgmdfaaGreatAg10
import Derived.Deep.AppendLies

namespace Go.Proofs.YtighalbnpgmdfaaGreat
open Go.ChangeShapes Go.WideShapes Go.ChangeAt Go.RowKit Go.Sort
set_option linter.unusedVariables false
set_option linter.unusedSimpArgs false

set_option maxRecDepth 100000 in
set_option maxHeartbeats 1000000 in
theorem l4Less_any (lo hi lo' hi' : Nat) (A A' : Option Addr) (c c' : Nat) (xs ys : List Int) (hl : xs.length ≤ 140737488355328) (hl2 : ys.length ≤ 140737488355328) (w : World) (h : Ints w lo hi A xs) (h' : Ints w lo' hi' A' ys) :
    Calls Tryz.prog 90 #[.slice A xs.length c, .slice A' ys.length c'] w fun e w' => e = .returned (.bool (decide (cmpL xs ys < 0))) ∧ Below w.heap.size w w' ∧ w'.heap = w.heap := by
  have HI := Lib.hid h
  have HJ := Lib.hid h'
  clear h h'
  have hl' : (xs.length : Int) ≤ 140737488355328 := by omega
  have hl2' : (ys.length : Int) ≤ 140737488355328 := by omega
  go_enter Tryz.func90, Tryz.ntmps90
  go_wp2
  go_loopw [5] (fun i wr => ∃ k : Nat, k ≤ xs.length ∧ k ≤ ys.length ∧ i = .int .i64 k ∧ cmpL (xs.drop k) (ys.drop k) = cmpL xs ys ∧ Below w.heap.size w wr ∧ wr.heap = w.heap) (fun i _ => xs.length - (intOf i).toNat)
  case atStart => exact ⟨0, by omega, by omega, rfl, rfl, Below.refl _ _, rfl⟩
  case round =>
    obtain ⟨k, hk, hk2, rfl, ha, hb, hh⟩ := hrel
    have HA := Lib.hid ha
    have HH := Lib.hid hh
    clear ha hh
    have hk0 : (0 : Int) ≤ (k : Int) := by omega
    by_cases hlt : k < xs.length
    · have dk : decide (k < xs.length) = true := by simpa using hlt
      by_cases hlt2 : k < ys.length
      · have dk2 : decide (k < ys.length) = true := by simpa using hlt2
        have HI1 : Ints wr lo hi A xs := HI.out.keep fun b _ _ => by rw [HH.out]
        have HJ1 : Ints wr lo' hi' A' ys := HJ.out.keep fun b _ _ => by rw [HH.out]
        obtain ⟨b, off, rfl, _, _, hc⟩ := HI1.at_ hlt
        obtain ⟨b', off', rfl, _, _, hc'⟩ := HJ1.at_ hlt2
        generalize hx : xs.getD k 0 = x at hc
        generalize hy : ys.getD k 0 = y at hc'
        have HX := Lib.hid hx
        have HY := Lib.hid hy
        have S := Lib.hid (cmpL_step xs ys k hlt hlt2)
        clear hx hy HI1 HJ1
        have hk1 : (k : Int) < (xs.length : Int) := by omega
        have hk3 : (k : Int) < (ys.length : Int) := by omega
        by_cases he : x = y
        · subst he
          have d1 : (x != x) = false := by simp
          go_wp2
          go_quiet (fail)
          go_wp2
          go_roundw
          case rel => exact ⟨k + 1, by omega, by omega, by go_num, by rw [← HA.out, S.out, HX.out, HY.out, if_neg (by omega), if_neg (by omega)], below_drewN hb _, HH.out⟩
          case measure => simp [intOf]; omega
        · have d1 : (x != y) = true := by simpa using he
          have d2 : (x == y) = false := by simpa using he
          have HE := Lib.hid he
          clear he
          by_cases hs : x < y
          · have d3 : decide (x < y) = true := by simpa using hs
            have R := Lib.hid (show decide (cmpL xs ys < 0) = true by rw [← HA.out, S.out, HX.out, HY.out, if_pos hs]; rfl)
            go_wp2
            go_quiet (fail)
            go_wp2
            go_quiet (fail)
            go_wp2
            go_ret
            exact ⟨ret_bool (by rw [R.out]), below_drewN (below_drewN hb _) _, HH.out⟩
          · have d3 : decide (x < y) = false := by simpa using hs
            have R := Lib.hid (show decide (cmpL xs ys < 0) = false by
              have := HE.out
              rw [← HA.out, S.out, HX.out, HY.out, if_neg hs, if_pos (by omega)]; rfl)
            go_wp2
            go_quiet (fail)
            go_wp2
            go_quiet (fail)
            go_wp2
            go_ret
            exact ⟨ret_bool (by rw [R.out]), below_drewN (below_drewN hb _) _, HH.out⟩
      · have dk2 : decide (k < ys.length) = false := by simpa using hlt2
        have dk3 : ¬ ((k : Int) < (ys.length : Int)) := by omega
        obtain rfl : k = ys.length := by omega
        have d3 : decide ((xs.length : Int) < (ys.length : Int)) = false := by simp; omega
        have d4 : decide (xs.length < ys.length) = false := by simp; omega
        go_wp2
        go_ret
        exact ⟨ret_bool (by rw [← HA.out, cmpL_long _ _ hlt]; first | rfl | simp), hb, HH.out⟩
    · have dk : decide (k < xs.length) = false := by simpa using hlt
      have dk3 : ¬ ((k : Int) < (xs.length : Int)) := by omega
      obtain rfl : k = xs.length := by omega
      by_cases hlt2 : xs.length < ys.length
      · have d3 : decide ((xs.length : Int) < (ys.length : Int)) = true := by simp; omega
        have d4 : decide (xs.length < ys.length) = true := by simp; omega
        go_wp2
        go_ret
        exact ⟨ret_bool (by rw [← HA.out, cmpL_short _ _ hlt2]; first | rfl | simp), hb, HH.out⟩
      · have d3 : decide ((xs.length : Int) < (ys.length : Int)) = false := by simp; omega
        have d4 : decide (xs.length < ys.length) = false := by simp; omega
        go_wp2
        go_ret
        exact ⟨ret_bool (by rw [← HA.out, cmpL_same _ _ _ rfl (by omega)]; first | rfl | simp), hb, HH.out⟩

/-- Where the model's second loop stands. -/
def AddStT (l : TL) (t : List Int) (k : Nat) (pb : Bool) (out : TL) : Prop :=
  (pb = true ∧ t ∈ l ∧ out = l.take k) ∨ (pb = false ∧ t ∉ l ∧ out = l.take k ∧ ∀ j, j < k → ¬ cmpL t (l.getD j []) < 0) ∨
  (pb = true ∧ t ∉ l ∧ ∃ p, p ≤ k ∧ addTI l t = l.take p ++ t :: l.drop p ∧ out = l.take p ++ t :: (l.take k).drop p)
theorem AddStT.start (l : TL) (t : List Int) : AddStT l t 0 (decide (t ∈ l)) [] := by
  by_cases h : t ∈ l
  · exact .inl ⟨decide_eq_true h, h, rfl⟩
  · exact .inr (.inl ⟨decide_eq_false h, h, rfl, fun j hj => by omega⟩)
theorem take_oneT (l : TL) (k : Nat) (hk : k < l.length) : l.take (k + 1) = l.take k ++ [l.getD k []] := by
  rw [List.take_succ_eq_append_getElem hk]
  simp [List.getD_eq_getElem?_getD, hk]
theorem AddStT.push {l : TL} {t : List Int} {k : Nat} {pb : Bool} {out : TL} (h : AddStT l t k pb out) (hk : k < l.length) (hp : pb = true ∨ ¬ cmpL t (l.getD k []) < 0) {f : List Int} (hf : l.getD k [] = f) : AddStT l t (k + 1) pb (out ++ [f]) := by
  subst hf
  rcases h with ⟨h1, h2, rfl⟩ | ⟨h1, h2, rfl, h3⟩ | ⟨h1, h2, p, hpk, h3, rfl⟩
  · exact .inl ⟨h1, h2, (take_oneT l k hk).symm⟩
  · refine .inr (.inl ⟨h1, h2, (take_oneT l k hk).symm, fun j hj => ?_⟩)
    by_cases e : j = k
    · subst e
      rcases hp with hp | hp
      · rw [h1] at hp; cases hp
      · exact hp
    · exact h3 j (by omega)
  · refine .inr (.inr ⟨h1, h2, p, by omega, h3, ?_⟩)
    rw [take_oneT l k hk, List.drop_append_of_le_length (by rw [List.length_take]; omega)]
    simp
theorem AddStT.place {l : TL} {t : List Int} {k : Nat} {out : TL} (h : AddStT l t k false out) (hk : k < l.length) (hp : cmpL t (l.getD k []) < 0) : AddStT l t k true (out ++ [t]) := by
  rcases h with ⟨h1, _⟩ | ⟨h1, h2, rfl, h3⟩ | ⟨h1, _⟩
  · cases h1
  · refine .inr (.inr ⟨rfl, h2, k, Nat.le_refl _, addTI_at l t k (by omega) h3 (fun _ => hp), ?_⟩)
    rw [List.drop_eq_nil_of_le (by rw [List.length_take]; omega)]
  · cases h1
theorem AddStT.done {l : TL} {t : List Int} {out : TL} (h : AddStT l t l.length true out) : out = addT l t := by
  rcases h with ⟨_, h2, rfl⟩ | ⟨h1, _⟩ | ⟨_, h2, p, _, h3, rfl⟩
  · rw [addT, if_pos h2, List.take_length]
  · cases h1
  · rw [addT, if_neg h2, h3, List.take_length]
theorem AddStT.last {l : TL} {t : List Int} {out : TL} (h : AddStT l t l.length false out) : out ++ [t] = addT l t := by
  rcases h with ⟨h1, _⟩ | ⟨_, h2, rfl, h3⟩ | ⟨h1, _⟩
  · cases h1
  · rw [addT, if_neg h2, addTI_at l t l.length (Nat.le_refl _) h3 (fun h => by omega), List.take_length, List.drop_length]
  · cases h1
theorem AddStT.len {l : TL} {t : List Int} {k : Nat} {pb : Bool} {out : TL} (h : AddStT l t k pb out) : out.length ≤ k + 1 := by
  rcases h with ⟨_, _, rfl⟩ | ⟨_, _, rfl, _⟩ | ⟨_, _, p, hp, _, rfl⟩
  · rw [List.length_take]; omega
  · rw [List.length_take]; omega
  · rw [List.length_append, List.length_cons, List.length_drop, List.length_take, List.length_take]; omega
theorem mem_takeT {l : TL} {t : List Int} {k : Nat} (hk : k < l.length) : decide (t ∈ l.take (k + 1)) = (decide (t ∈ l.take k) || decide (l.getD k [] = t)) := by
  rw [take_oneT l k hk, Bool.eq_iff_iff]
  simp only [decide_eq_true_eq, Bool.or_eq_true, List.mem_append, List.mem_singleton]
  constructor
  · rintro (h | h)
    · exact .inl h
    · exact .inr h.symm
  · rintro (h | h)
    · exact .inl h
    · exact .inr h.symm

set_option maxRecDepth 100000 in
set_option maxHeartbeats 4000000 in
theorem spec_AddTuple (A : Option Addr) (c : Nat) (l : TL) (t : List Int) (A' : Option Addr) (c' : Nat) (hz : szT l ≤ 1048576) (hl2 : t.length ≤ 1048576) (w : World) (h : RT w A l) (h' : RI w A' t) :
    Calls Tryz.prog 58 #[.slice A l.length c, .slice A' t.length c'] w (AddOutT w (addT l t)) := by
  obtain ⟨i0, hi, hz0, hz1, hz2⟩ := info_parts ints_info
  obtain ⟨ii, hii, iz0, iz1, iz2⟩ := info_parts int_info
  have hl := szT_len hz
  have hl' : (l.length : Int) ≤ 1048576 := by omega
  have B0 := Lib.hid (below_alloc w (.cells #[] 22))
  have HI := Lib.hid h
  have HJ := Lib.hid h'
  have O0 := Lib.hid (show OwnCT (w.alloc (.cells #[] 22)) w.heap.size (w.alloc (.cells #[] 22)).heap.size (.slice (some ⟨w.heap.size, 0, none⟩) 0 0) [] [] (fun _ => 0) from
    ⟨World.ownsRow_lit _ #[] 0 (Nat.le_refl _) (by unfold maxLen; omega) rfl, ItemsT.nil _ _ _⟩)
  clear h h'
  go_enter Tryz.func58, Tryz.ntmps58
  go_wp2
  go_loopw [6, 7] (fun p i wr => ∃ k : Nat, k ≤ l.length ∧ i = .int .i64 k ∧ p = .bool (decide (t ∈ l.take k)) ∧ Below (w.alloc (.cells #[] 22)).heap.size (w.alloc (.cells #[] 22)) wr) (fun _ i _ => l.length - (intOf i).toNat)
  case atStart => exact ⟨0, by omega, rfl, by simp, Below.refl _ _⟩
  case round =>
    obtain ⟨k, hk, rfl, rfl, hb⟩ := hrel
    have TB := Lib.hid (step B0.out hb)
    have hk0 : (0 : Int) ≤ (k : Int) := by omega
    by_cases hlt : k < l.length
    · have hk1 : (k : Int) < (l.length : Int) := by omega
      have MT := Lib.hid (mem_takeT (t := t) hlt)
      generalize decide (t ∈ l.take k) = pb at MT
      generalize hf : l.getD k [] = xs at MT
      have hxl : xs.length ≤ 1048576 := by have := szT_elem hz hlt; rw [hf] at this; exact this
      obtain ⟨b, off, B, c2, rfl, n1, e1, hxc, hcm, hI⟩ := (HI.out.step TB.out).at_ hlt hf
      have XL := Lib.hid (l2Ints_any _ _ _ _ B A' c2 c' xs t (by omega) (by omega) wr hI (HJ.out.step TB.out))
      clear hI hf
      cases pb
      · go_wp2_with fail
        refine XL.out.mono ?_
        rintro e u ⟨rfl, d⟩
        have hb2 := step hb d
        clear d
        go_wp2
        go_roundw
        case rel => exact ⟨k + 1, by omega, by go_num, by rw [MT.out]; simp, hb2⟩
        case measure => simp [intOf]; omega
      · go_wp2
        go_roundw
        case rel => exact ⟨k + 1, by omega, by go_num, by rw [MT.out]; simp, hb⟩
        case measure => simp [intOf]; omega
    · obtain rfl : k = l.length := by omega
      have ET := Lib.hid (show decide (t ∈ l.take l.length) = decide (t ∈ l) by rw [take_all])
      rw [ET.out]
      obtain ⟨u, hu⟩ : ∃ u, u = wr := ⟨_, rfl⟩
      subst hu
      have Ou := Lib.hid (OwnCT.step O0.out hb)
      have SZ := hb.size
      simp at SZ
      clear hb
      go_wp2
      go_loopw [5, 6, 8] (fun v p i wr => ∃ (k : Nat) (pb : Bool) (out : TL) (cs : List Value) (bs : Nat → Nat) (A2 : Option Addr) (c2 : Nat), k ≤ l.length ∧ i = .int .i64 k ∧ p = .bool pb ∧ v = .slice A2 out.length c2 ∧ OwnCT wr w.heap.size wr.heap.size (.slice A2 out.length c2) out cs bs ∧ AddStT l t k pb out ∧ Below w.heap.size u wr) (fun _ _ i _ => l.length - (intOf i).toNat)
      case atStart => exact ⟨0, decide (t ∈ l), [], [], _, _, 0, by omega, rfl, rfl, rfl, Ou.out, AddStT.start l t, Below.refl _ _⟩
      case round =>
        obtain ⟨k, pb, out, cs, bs, A2, c2, hk, rfl, rfl, rfl, ho, hst, hb⟩ := hrel
        have TW := Lib.hid (TB.out.trans hb)
        have HO := Lib.hid ho
        have ST := Lib.hid hst
        have LW := Lib.hid (show w.heap.size ≤ wr.heap.size by have := hb.size; omega)
        have lw := LW.out
        have hlen := hst.len
        have hk0 : (0 : Int) ≤ (k : Int) := by omega
        clear ho hst
        by_cases hlt : k < l.length
        · have hk1 : (k : Int) < (l.length : Int) := by omega
          generalize hf : l.getD k [] = xs
          have HF := Lib.hid hf
          have hxl : xs.length ≤ 1048576 := by have := szT_elem hz hlt; rw [hf] at this; exact this
          obtain ⟨b, off, B, c5, rfl, n1, E0, hxc, hcm, hX⟩ := HI.out.at_ hlt hf
          have F0 := Lib.hid E0
          have HX := Lib.hid hX
          have e0 := (TW.out.cell (p := ⟨b, off + k, none⟩) n1).trans E0
          have XJ := Lib.hid (HJ.out.step TW.out)
          have XX := Lib.hid (HX.out.step TW.out)
          have XL := Lib.hid (l4Less_any _ _ _ _ A' B c' c5 t xs (by omega) (by omega) wr (HJ.out.step TW.out) (HX.out.step TW.out))
          have hC := Lib.hid (show (decide (cmpL t xs < 0)) = decide (cmpL t (l.getD k []) < 0) by rw [hf])
          generalize hq : decide (cmpL t xs < 0) = q at XL hC
          have HQ := Lib.hid hq
          clear hX hf hq E0
          cases pb
          · go_wp2_with fail
            refine XL.out.mono ?_
            rintro e wq ⟨rfl, dq, hhq⟩
            have HOq := Lib.hid (HO.out.step dq)
            have Hbq := Lib.hid (hb.trans (dq.mono lw))
            have LWq := Lib.hid (Nat.le_trans lw dq.size)
            have lwq := LWq.out
            have eq0 := (dq.cell (p := ⟨b, off + k, none⟩) (show b < wr.heap.size by omega)).trans e0
            have eb := Nat.lt_of_lt_of_le n1 lwq
            have XJq := Lib.hid (XJ.out.step dq)
            have XXq := Lib.hid (XX.out.step dq)
            clear dq hhq e0
            obtain ⟨wra, hwra⟩ : ∃ x, x = wq := ⟨_, rfl⟩
            subst hwra
            obtain ⟨outa, houta⟩ : ∃ x, x = out := ⟨_, rfl⟩
            subst houta
            cases q
            · have ST2 := Lib.hid (ST.out.push hlt (.inr (of_decide_eq_false hC.out.symm)) HF.out)
              go_wp2_with (first
                | (at_builtin; refine wpList_append_nums rfl _ _ 22 rfl wra.heap.size 3 ii Tryz.underlying22 hii iz0 iz1 iz2 (.slice (some ⟨wra.heap.size, 0, none⟩) 0 0) 0 [] rfl (World.ownsRow_lit _ #[] 0 (Nat.le_refl _) (by unfold maxLen; omega) rfl) _ _ B c5 xs rfl (XXq.out.step (below_alloc wra (.cells #[] 3))) (by omega) (by simp) ?_; intro v7a w7a hown7 hg7 hat7
                   have hown7' : w7a.ownsRow wra.heap.size 3 1 v7a (0 + xs.length) (xs.map (Value.int .i64)) := by simpa using hown7
                   obtain ⟨q7a, hv7⟩ := ownV_of_row hown7'
                   obtain ⟨A7a, c7a, rfl, _, _⟩ := hv7.form
                   have d7 : Below wra.heap.size wra w7a := (below_alloc wra _).grown hg7 (by simp) (fun k hk => Nat.le_of_eq (by simpa [Value.ownBlock] using hk))
                   have D7a := Lib.hid d7
                   have HO7a := Lib.hid ((OwnCT.cur HOq.out (Nat.le_refl _) d7).cur d7.size (below_alloc w7a (.cells #[.slice A7a xs.length c7a] 22)))
                   have HV7a := Lib.hid (OwnV.step (show OwnV w7a wra.heap.size w7a.heap.size (.slice A7a xs.length c7a) q7a xs from hv7) (below_alloc w7a (.cells #[.slice A7a xs.length c7a] 22)))
                   have n7a := d7.size
                   clear hown7 hown7' hv7 hg7 hat7 d7)
                | (at_builtin; refine wpList_append_lies _ rfl _ _ 29 rfl (w.heap.size) 22 i0 _ 1 24 Tryz.underlying29 hi hz0 hz1 hz2 rfl (by omega) (.slice A2 outa.length c2) outa.length cs rfl HO7a.out.1 ⟨w7a.heap.size, 0, none⟩ 1 1 [.slice A7a xs.length c7a] rfl rfl (World.news_of_block (cs := #[.slice A7a xs.length c7a]) (t := 22) (fr := (0, 0)) (heap_alloc_new w7a _)) (by simp [Value.oneCell']) (by omega) (by unfold maxLen; omega) (by omega) (by (try simp) <;> omega) (w7a.heap.size + 1) (by simp) ?_; intro g8a cap8a v8a hown8 hgrow8 hat8 hlt8
                   have d8 : Below w.heap.size (w7a.alloc (.cells #[.slice A7a xs.length c7a] 22)) v8a := (Below.refl _ _).grown hgrow8 (by (try simp) <;> omega) (fun q hq => (HO7a.out.1.lt q hq).1)
                   obtain ⟨bs8a, ho8⟩ := ownT_append HO7a.out HV7a.out LWq.out (by (try simp) <;> omega) hown8 hgrow8
                   have O8a := Lib.hid ho8
                   have B8a := Lib.hid (((step D7a.out (below_alloc w7a (.cells #[.slice A7a xs.length c7a] 22))).mono LWq.out).trans d8)
                   have L8a := Lib.hid (show (outa ++ [xs]).length = outa.length + 1 by rw [List.length_append]; rfl)
                   clear hown8 hgrow8 hat8 ho8 d8 hlt8))
              go_wp2
              go_roundw
              case rel => exact ⟨k + 1, false, outa ++ [xs], _, bs8a, _, _, by omega, by go_num, rfl, by rw [L8a.out], by have := O8a.out; rw [L8a.out]; exact this, ST2.out, Hbq.out.trans B8a.out⟩
              case measure => simp [intOf]; omega
            · have ST1 := ST.out.place hlt (of_decide_eq_true hC.out.symm)
              obtain ⟨outd, houtd⟩ : ∃ o, o = outa ++ [t] := ⟨_, rfl⟩
              rw [← houtd] at ST1
              have ST2 := Lib.hid (ST1.push hlt (.inl rfl) HF.out)
              have E8 := Lib.hid (show outa.length + 1 = outd.length by rw [houtd, List.length_append]; rfl)
              have HD := Lib.hid houtd
              have hlend : outd.length ≤ k + 2 := by have := E8.out; omega
              clear ST1 houtd
              have tkb1 : True := trivial
              have tkb2 : True := trivial
              have tkd1 : True := trivial
              have tkd2 : True := trivial
              go_wp2_with (first
                | (at_builtin; have _t := tkb1; refine wpList_append_nums rfl _ _ 22 rfl wra.heap.size 3 ii Tryz.underlying22 hii iz0 iz1 iz2 (.slice (some ⟨wra.heap.size, 0, none⟩) 0 0) 0 [] rfl (World.ownsRow_lit _ #[] 0 (Nat.le_refl _) (by unfold maxLen; omega) rfl) _ _ A' c' t rfl (XJq.out.step (below_alloc wra (.cells #[] 3))) (by omega) (by simp) ?_; intro v7b w7b hown7 hg7 hat7
                   have hown7' : w7b.ownsRow wra.heap.size 3 1 v7b (0 + t.length) (t.map (Value.int .i64)) := by simpa using hown7
                   obtain ⟨q7b, hv7⟩ := ownV_of_row hown7'
                   obtain ⟨A7b, c7b, rfl, _, _⟩ := hv7.form
                   have d7 : Below wra.heap.size wra w7b := (below_alloc wra _).grown hg7 (by simp) (fun k hk => Nat.le_of_eq (by simpa [Value.ownBlock] using hk))
                   have D7b := Lib.hid d7
                   have HO7b := Lib.hid ((OwnCT.cur HOq.out (Nat.le_refl _) d7).cur d7.size (below_alloc w7b (.cells #[.slice A7b t.length c7b] 22)))
                   have HV7b := Lib.hid (OwnV.step (show OwnV w7b wra.heap.size w7b.heap.size (.slice A7b t.length c7b) q7b t from hv7) (below_alloc w7b (.cells #[.slice A7b t.length c7b] 22)))
                   have n7b := d7.size
                   clear hown7 hown7' hv7 hg7 hat7 d7 tkb1)
                | (at_builtin; have _t := tkb2; refine wpList_append_lies _ rfl _ _ 29 rfl (w.heap.size) 22 i0 _ 1 24 Tryz.underlying29 hi hz0 hz1 hz2 rfl (by omega) (.slice A2 outa.length c2) outa.length cs rfl HO7b.out.1 ⟨w7b.heap.size, 0, none⟩ 1 1 [.slice A7b t.length c7b] rfl rfl (World.news_of_block (cs := #[.slice A7b t.length c7b]) (t := 22) (fr := (0, 0)) (heap_alloc_new w7b _)) (by simp [Value.oneCell']) (by omega) (by unfold maxLen; omega) (by omega) (by (try simp) <;> omega) (w7b.heap.size + 1) (by simp) ?_; intro g8b cap8b v8b hown8 hgrow8 hat8 hlt8
                   have d8 : Below w.heap.size (w7b.alloc (.cells #[.slice A7b t.length c7b] 22)) v8b := (Below.refl _ _).grown hgrow8 (by (try simp) <;> omega) (fun q hq => (HO7b.out.1.lt q hq).1)
                   obtain ⟨bs8b, ho8⟩ := ownT_append HO7b.out HV7b.out LWq.out (by (try simp) <;> omega) hown8 hgrow8
                   have O8b := Lib.hid ho8
                   have B8b := Lib.hid (((step D7b.out (below_alloc w7b (.cells #[.slice A7b t.length c7b] 22))).mono LWq.out).trans d8)
                   have L8b := Lib.hid (show (outa ++ [t]).length = outa.length + 1 by rw [List.length_append]; rfl)
                   clear hown8 hgrow8 hat8 ho8 d8 hlt8 tkb2
                   rw [E8.out]
                   have HO9 := Lib.hid (show OwnCT v8b w.heap.size v8b.heap.size (.slice (some ⟨g8b, 0, none⟩) outd.length cap8b) outd (cs ++ [.slice A7b t.length c7b]) bs8b by have := O8b.out; rw [← HD.out, E8.out] at this; exact this)
                   have lw9 := Nat.le_trans lwq B8b.out.size
                   have LW9 := Lib.hid lw9
                   have T9 := Lib.hid (TB.out.trans (Hbq.out.trans B8b.out))
                   have T8 := Lib.hid (Hbq.out.trans B8b.out)
                   have eq9 := (B8b.out.cell (p := ⟨b, off + k, none⟩) n1).trans eq0
                   have eb9 := Nat.lt_of_lt_of_le n1 lw9
                   have XX9 := Lib.hid (HX.out.step T9.out)
                   clear eq0 eb)
                | (at_builtin; have _t := tkd1; refine wpList_append_nums rfl _ _ 22 rfl v8b.heap.size 3 ii Tryz.underlying22 hii iz0 iz1 iz2 (.slice (some ⟨v8b.heap.size, 0, none⟩) 0 0) 0 [] rfl (World.ownsRow_lit _ #[] 0 (Nat.le_refl _) (by unfold maxLen; omega) rfl) _ _ B c5 xs rfl (XX9.out.step (below_alloc v8b (.cells #[] 3))) (by omega) (by simp) ?_; intro v7d w7d hown7 hg7 hat7
                   have hown7' : w7d.ownsRow v8b.heap.size 3 1 v7d (0 + xs.length) (xs.map (Value.int .i64)) := by simpa using hown7
                   obtain ⟨q7d, hv7⟩ := ownV_of_row hown7'
                   obtain ⟨A7d, c7d, rfl, _, _⟩ := hv7.form
                   have d7 : Below v8b.heap.size v8b w7d := (below_alloc v8b _).grown hg7 (by simp) (fun k hk => Nat.le_of_eq (by simpa [Value.ownBlock] using hk))
                   have D7d := Lib.hid d7
                   have HO7d := Lib.hid ((OwnCT.cur HO9.out (Nat.le_refl _) d7).cur d7.size (below_alloc w7d (.cells #[.slice A7d xs.length c7d] 22)))
                   have HV7d := Lib.hid (OwnV.step (show OwnV w7d v8b.heap.size w7d.heap.size (.slice A7d xs.length c7d) q7d xs from hv7) (below_alloc w7d (.cells #[.slice A7d xs.length c7d] 22)))
                   have n7d := d7.size
                   clear hown7 hown7' hv7 hg7 hat7 d7 tkd1)
                | (at_builtin; have _t := tkd2; refine wpList_append_lies _ rfl _ _ 29 rfl (w.heap.size) 22 i0 _ 1 24 Tryz.underlying29 hi hz0 hz1 hz2 rfl (by omega) (.slice (some ⟨g8b, 0, none⟩) outd.length cap8b) outd.length (cs ++ [.slice A7b t.length c7b]) rfl HO7d.out.1 ⟨w7d.heap.size, 0, none⟩ 1 1 [.slice A7d xs.length c7d] rfl rfl (World.news_of_block (cs := #[.slice A7d xs.length c7d]) (t := 22) (fr := (0, 0)) (heap_alloc_new w7d _)) (by simp [Value.oneCell']) (by omega) (by unfold maxLen; omega) (by omega) (by (try simp) <;> omega) (w7d.heap.size + 1) (by simp) ?_; intro g8d cap8d v8d hown8 hgrow8 hat8 hlt8
                   have d8 : Below w.heap.size (w7d.alloc (.cells #[.slice A7d xs.length c7d] 22)) v8d := (Below.refl _ _).grown hgrow8 (by (try simp) <;> omega) (fun q hq => (HO7d.out.1.lt q hq).1)
                   obtain ⟨bs8d, ho8⟩ := ownT_append HO7d.out HV7d.out LW9.out (by (try simp) <;> omega) hown8 hgrow8
                   have O8d := Lib.hid ho8
                   have B8d := Lib.hid (((step D7d.out (below_alloc w7d (.cells #[.slice A7d xs.length c7d] 22))).mono LW9.out).trans d8)
                   have L8d := Lib.hid (show (outd ++ [xs]).length = outd.length + 1 by rw [List.length_append]; rfl)
                   clear hown8 hgrow8 hat8 ho8 d8 hlt8 tkd2))
              go_wp2
              go_roundw
              case rel => exact ⟨k + 1, true, outd ++ [xs], _, bs8d, _, _, by omega, by go_num, rfl, by rw [L8d.out], by have := O8d.out; rw [L8d.out]; exact this, ST2.out, T8.out.trans B8d.out⟩
              case measure => simp [intOf]; omega
          · have ST2 := Lib.hid (ST.out.push hlt (.inl rfl) HF.out)
            obtain ⟨wra, hwra⟩ : ∃ x, x = wr := ⟨_, rfl⟩
            subst hwra
            obtain ⟨outa, houta⟩ : ∃ x, x = out := ⟨_, rfl⟩
            subst houta
            have eb := Nat.lt_of_lt_of_le n1 lw
            go_wp2_with (first
              | (at_builtin; refine wpList_append_nums rfl _ _ 22 rfl wra.heap.size 3 ii Tryz.underlying22 hii iz0 iz1 iz2 (.slice (some ⟨wra.heap.size, 0, none⟩) 0 0) 0 [] rfl (World.ownsRow_lit _ #[] 0 (Nat.le_refl _) (by unfold maxLen; omega) rfl) _ _ B c5 xs rfl (XX.out.step (below_alloc wra (.cells #[] 3))) (by omega) (by simp) ?_; intro v7a w7a hown7 hg7 hat7
                 have hown7' : w7a.ownsRow wra.heap.size 3 1 v7a (0 + xs.length) (xs.map (Value.int .i64)) := by simpa using hown7
                 obtain ⟨q7a, hv7⟩ := ownV_of_row hown7'
                 obtain ⟨A7a, c7a, rfl, _, _⟩ := hv7.form
                 have d7 : Below wra.heap.size wra w7a := (below_alloc wra _).grown hg7 (by simp) (fun k hk => Nat.le_of_eq (by simpa [Value.ownBlock] using hk))
                 have D7a := Lib.hid d7
                 have HO7a := Lib.hid ((OwnCT.cur HO.out (Nat.le_refl _) d7).cur d7.size (below_alloc w7a (.cells #[.slice A7a xs.length c7a] 22)))
                 have HV7a := Lib.hid (OwnV.step (show OwnV w7a wra.heap.size w7a.heap.size (.slice A7a xs.length c7a) q7a xs from hv7) (below_alloc w7a (.cells #[.slice A7a xs.length c7a] 22)))
                 have n7a := d7.size
                 clear hown7 hown7' hv7 hg7 hat7 d7)
              | (at_builtin; refine wpList_append_lies _ rfl _ _ 29 rfl (w.heap.size) 22 i0 _ 1 24 Tryz.underlying29 hi hz0 hz1 hz2 rfl (by omega) (.slice A2 outa.length c2) outa.length cs rfl HO7a.out.1 ⟨w7a.heap.size, 0, none⟩ 1 1 [.slice A7a xs.length c7a] rfl rfl (World.news_of_block (cs := #[.slice A7a xs.length c7a]) (t := 22) (fr := (0, 0)) (heap_alloc_new w7a _)) (by simp [Value.oneCell']) (by omega) (by unfold maxLen; omega) (by omega) (by (try simp) <;> omega) (w7a.heap.size + 1) (by simp) ?_; intro g8a cap8a v8a hown8 hgrow8 hat8 hlt8
                 have d8 : Below w.heap.size (w7a.alloc (.cells #[.slice A7a xs.length c7a] 22)) v8a := (Below.refl _ _).grown hgrow8 (by (try simp) <;> omega) (fun q hq => (HO7a.out.1.lt q hq).1)
                 obtain ⟨bs8a, ho8⟩ := ownT_append HO7a.out HV7a.out LW.out (by (try simp) <;> omega) hown8 hgrow8
                 have O8a := Lib.hid ho8
                 have B8a := Lib.hid (((step D7a.out (below_alloc w7a (.cells #[.slice A7a xs.length c7a] 22))).mono LW.out).trans d8)
                 have L8a := Lib.hid (show (outa ++ [xs]).length = outa.length + 1 by rw [List.length_append]; rfl)
                 clear hown8 hgrow8 hat8 ho8 d8 hlt8))
            go_wp2
            go_roundw
            case rel => exact ⟨k + 1, true, outa ++ [xs], _, bs8a, _, _, by omega, by go_num, rfl, by rw [L8a.out], by have := O8a.out; rw [L8a.out]; exact this, ST2.out, hb.trans B8a.out⟩
            case measure => simp [intOf]; omega
        · obtain rfl : k = l.length := by omega
          cases pb
          · have XJ := Lib.hid (HJ.out.step TW.out)
            have ST2 := Lib.hid ST.out.last
            obtain ⟨wra, hwra⟩ : ∃ x, x = wr := ⟨_, rfl⟩
            subst hwra
            obtain ⟨outa, houta⟩ : ∃ x, x = out := ⟨_, rfl⟩
            subst houta
            go_wp2_with (first
              | (at_builtin; refine wpList_append_nums rfl _ _ 22 rfl wra.heap.size 3 ii Tryz.underlying22 hii iz0 iz1 iz2 (.slice (some ⟨wra.heap.size, 0, none⟩) 0 0) 0 [] rfl (World.ownsRow_lit _ #[] 0 (Nat.le_refl _) (by unfold maxLen; omega) rfl) _ _ A' c' t rfl (XJ.out.step (below_alloc wra (.cells #[] 3))) (by omega) (by simp) ?_; intro v7a w7a hown7 hg7 hat7
                 have hown7' : w7a.ownsRow wra.heap.size 3 1 v7a (0 + t.length) (t.map (Value.int .i64)) := by simpa using hown7
                 obtain ⟨q7a, hv7⟩ := ownV_of_row hown7'
                 obtain ⟨A7a, c7a, rfl, _, _⟩ := hv7.form
                 have d7 : Below wra.heap.size wra w7a := (below_alloc wra _).grown hg7 (by simp) (fun k hk => Nat.le_of_eq (by simpa [Value.ownBlock] using hk))
                 have D7a := Lib.hid d7
                 have HO7a := Lib.hid ((OwnCT.cur HO.out (Nat.le_refl _) d7).cur d7.size (below_alloc w7a (.cells #[.slice A7a t.length c7a] 22)))
                 have HV7a := Lib.hid (OwnV.step (show OwnV w7a wra.heap.size w7a.heap.size (.slice A7a t.length c7a) q7a t from hv7) (below_alloc w7a (.cells #[.slice A7a t.length c7a] 22)))
                 have n7a := d7.size
                 clear hown7 hown7' hv7 hg7 hat7 d7)
              | (at_builtin; refine wpList_append_lies _ rfl _ _ 29 rfl (w.heap.size) 22 i0 _ 1 24 Tryz.underlying29 hi hz0 hz1 hz2 rfl (by omega) (.slice A2 outa.length c2) outa.length cs rfl HO7a.out.1 ⟨w7a.heap.size, 0, none⟩ 1 1 [.slice A7a t.length c7a] rfl rfl (World.news_of_block (cs := #[.slice A7a t.length c7a]) (t := 22) (fr := (0, 0)) (heap_alloc_new w7a _)) (by simp [Value.oneCell']) (by omega) (by unfold maxLen; omega) (by omega) (by (try simp) <;> omega) (w7a.heap.size + 1) (by simp) ?_; intro g8a cap8a v8a hown8 hgrow8 hat8 hlt8
                 have d8 : Below w.heap.size (w7a.alloc (.cells #[.slice A7a t.length c7a] 22)) v8a := (Below.refl _ _).grown hgrow8 (by (try simp) <;> omega) (fun q hq => (HO7a.out.1.lt q hq).1)
                 obtain ⟨bs8a, ho8⟩ := ownT_append HO7a.out HV7a.out LW.out (by (try simp) <;> omega) hown8 hgrow8
                 have O8a := Lib.hid ho8
                 have B8a := Lib.hid (((step D7a.out (below_alloc w7a (.cells #[.slice A7a t.length c7a] 22))).mono LW.out).trans d8)
                 have L8a := Lib.hid (show (outa ++ [t]).length = outa.length + 1 by rw [List.length_append]; rfl)
                 clear hown8 hgrow8 hat8 ho8 d8 hlt8))
            go_ret
            refine ⟨some ⟨g8a, 0, none⟩, cap8a, cs ++ [.slice A7a t.length c7a], bs8a, by rw [← ST2.out, L8a.out]; rfl, ?_, TW.out.trans B8a.out⟩
            have := O8a.out
            rw [← ST2.out, L8a.out]
            exact this
          · have ST2 := Lib.hid ST.out.done
            go_wp2
            go_ret
            rw [← ST2.out]
            exact ⟨_, _, cs, bs, rfl, HO.out, TW.out⟩
end Go.Proofs.YtighalbnpgmdfaaGreat
