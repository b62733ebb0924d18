/- What the program's parseHead and parseAtoms answer. Conditions: none beyond each theorem's own. What the model's l3ParseAtom answers. Conditions: none beyond each theorem's own. What the program's ParseQuery answers. Conditions: none beyond each theorem's own. -/
import Derived.Test.YtfhlmindkogdoaaGreatDoorPq12
import Derived.Test.YtfhlmindkogdoaaGreatDoorPq7
import Derived.Deep.RegionLaw
import Derived.Deep.RegionHeld3
import Derived.Test.YtfhlmindkogdoaaGreatDoorPq8
import Derived.Test.YtfhlmindkogdoaaGreatDoorPq10
import Derived.Test.YtfhlmindkogdoaaGreatDoorPq11

namespace Go.Proofs.YtfhlmindkogdoaaGreatDoor
open Go.ChangeShapes Go.WideShapes Go.ChangeAt Go.RowKit Go.Sort
set_option linter.unusedVariables false
set_option linter.unusedSimpArgs false

def PhOut (w : World) (s : ByteArray) (e : Ending) (w' : World) : Prop :=
  ∃ A c ok q xs, e = .returned (.tuple #[.slice A xs.length c, .bool ok]) ∧ OwnV w' w.heap.size w'.heap.size (.slice A xs.length c) q xs ∧ Below w.heap.size w w' ∧ xs.length ≤ s.size + 1 ∧ (ok = true ↔ okH s) ∧ (ok = true → xs = hsI s)
theorem yes_eq : yesB = ⟨#[121, 101, 115]⟩ := rfl
theorem ba_ne {a b : ByteArray} (h : ¬ a = b) : ¬ a.toList = b.toList := fun e => h (by
  rw [ByteArray.toList_eq, ByteArray.toList_eq] at e
  apply ByteArray.ext; apply Array.toList_inj.1; exact e)
theorem yes_list : (⟨#[121, 101, 115]⟩ : ByteArray).toList = [121, 101, 115] := by rw [ByteArray.toList_eq]
theorem yes_no {s : ByteArray} (h : ¬ s.toList = (⟨#[121, 101, 115]⟩ : ByteArray).toList) : (s.toList == [121, 101, 115]) = false := by
  rw [yes_list] at h
  simpa using h
set_option maxRecDepth 100000 in
set_option maxHeartbeats 400000 in
theorem parseHead_any (s : ByteArray) (m : Int) (hs : s.size ≤ 1048576) (w : World) (hm : w.cell? ⟨0, 0, none⟩ = some (.int .i64 m)) (ht : Tab w) :
    Calls Tryz.prog 42 #[.string s] w (PhOut w s) := by
  have PL := Lib.hid (parseList_term s m hs w hm ht)
  clear hm ht
  by_cases hy : s = yesB
  · have E := Lib.hid (show hsI s = [] from if_pos hy)
    have K := Lib.hid (show okH s from .inl hy)
    rw [yes_eq] at hy
    subst hy
    go_enter Tryz.func42, Tryz.ntmps42
    go_wp2
    go_ret2
    exact ⟨none, 0, true, 0, [], rfl, ownV_nil _ _ _, Below.refl _ _, by simp, ⟨fun _ => K.out, fun _ => rfl⟩, fun _ => E.out.symm⟩
  · have E := Lib.hid (show hsI s = numT (wordsI s) from if_neg hy)
    have K := Lib.hid (show okH s ↔ allTm (wordsI s) from ⟨fun h => h.resolve_left hy, .inr⟩)
    rw [yes_eq] at hy
    have c5 := ba_ne hy
    have c6 : (s.toList == [121, 101, 115]) = false := yes_no c5
    clear hy
    go_enter Tryz.func42, Tryz.ntmps42
    go_wp2_with fail
    refine PL.out.mono ?_
    rintro e w1 ⟨A, c, ok, q, xs, rfl, hv, d, hl, hok, hxs⟩
    have V := Lib.hid hv
    have D := Lib.hid d
    have L := Lib.hid hl
    have O := Lib.hid (hok.trans K.out.symm)
    have X := Lib.hid (fun h => (hxs h).trans E.out.symm)
    clear hv d hl hok hxs
    go_wp2
    go_ret2
    exact ⟨A, c, ok, q, xs, rfl, V.out, D.out, L.out, O.out, X.out⟩

/-- What parseAtoms answers. -/
def PaOut (w : World) (b : ByteArray) (e : Ending) (w' : World) : Prop :=
  ∃ A c ok l cs bs, e = .returned (.tuple #[.slice A (l : FL).length c, .bool ok]) ∧ atom.OwnC w' w.heap.size w'.heap.size (.slice A (l : FL).length c) l cs bs ∧ Below w.heap.size w w' ∧ (ok = true ↔ ∀ p ∈ partsQ b, okI p) ∧ (ok = true → l = (partsQ b).map atI)
theorem atI_take (ws : List ByteArray) {k : Nat} (hk : k < ws.length) {x : ByteArray} (hx : ws.getD k ⟨#[]⟩ = x) : (ws.map atI).take (k + 1) = (ws.map atI).take k ++ [atI x] ∧ ws.take (k + 1) = ws.take k ++ [x] := by
  have hk' : k < (ws.map atI).length := by simpa using hk
  rw [List.take_succ_eq_append_getElem hk', List.take_succ_eq_append_getElem hk]
  subst hx
  simp [List.getD_eq_getElem?_getD, hk]
theorem ownC_nil (w : World) (lo hi : Nat) : atom.OwnC w lo hi (.slice none ([] : FL).length 0) [] [] (fun _ => 0) := ⟨⟨by simp, .inl ⟨rfl, rfl⟩⟩, Items.nil _ _ _⟩

set_option maxRecDepth 100000 in
set_option maxHeartbeats 1000000 in
theorem parseAtoms_any (b : ByteArray) (m : Int) (hs : b.size ≤ 1048576) (w : World) (hm : w.cell? ⟨0, 0, none⟩ = some (.int .i64 m)) (ht : Tab w) :
    Calls Tryz.prog 43 #[.string b] w (PaOut w b) := by
  obtain ⟨i0, hi, hz0, hz1, hz2⟩ := info_parts atom.fact_info
  have HT := Lib.hid (Lib.tabBelow_of_tabIs ht)
  have HM := Lib.hid (fun (W : World) (hW : Below w.heap.size w W) => (hW.cell (p := ⟨0, 0, none⟩) (by
    show 0 < w.heap.size
    rcases Nat.eq_zero_or_pos w.heap.size with h0 | h0
    · simp [World.cell?, Array.getElem?_eq_none (show w.heap.size ≤ 0 by omega)] at hm
    · exact h0)).trans hm)
  have hsp := Tryz.strings_Split b ⟨#[32, 97, 110, 100, 32]⟩ m w (by omega) hm (by decide)
  have plen : (partsQ b).length = Lib.countB b ⟨#[32, 97, 110, 100, 32]⟩ + 1 := parts_len b
  rw [← plen] at hsp
  change Calls Tryz.prog _ _ _ fun e w' => e = .returned (.slice (some ⟨w.heap.size, 0, none⟩) (partsQ b).length (partsQ b).length) ∧ w' = w.alloc (.cells ((partsQ b).map Value.string).toArray 9) at hsp
  have WL := parts_le b
  have WS := Lib.hid (fun x (h : x ∈ partsQ b) => parts_size h)
  generalize hws : partsQ b = ws at hsp WL WS
  have HW := Lib.hid hws
  have SP := Lib.hid hsp
  have R0 := Lib.hid (show RS (w.alloc (.cells (ws.map Value.string).toArray 9)) w.heap.size ws from heap_alloc_new w _)
  have B0 := Lib.hid (below_alloc w (.cells (ws.map Value.string).toArray 9))
  have WL' : (ws.length : Int) ≤ 1048577 := by omega
  obtain ⟨w0, hw0⟩ : ∃ W, W = w.alloc (.cells (ws.map Value.string).toArray 9) := ⟨_, rfl⟩
  have Z0 : w0.heap.size = w.heap.size + 1 := by rw [hw0, al_size]
  rw [← hw0] at R0 B0 SP
  clear hsp hws hm ht hw0 plen
  go_enter Tryz.func43, Tryz.ntmps43
  go_wp2_with (go_at_call 85; refine SP.out.mono ?_; rintro e w0 ⟨rfl, rfl⟩)
  go_loopw [4, 6, 7, 8, 9, 13] (fun v _ _ _ _ i wr => ∃ (k : Nat) (out : FL) (cs : List Value) (bs : Nat → Nat) (A : Option Addr) (c : Nat), k ≤ ws.length ∧ i = .int .i64 k ∧ v = .slice A out.length c ∧ Hid (out = (ws.map atI).take k) ∧ out.length ≤ k ∧ Hid (atom.OwnC wr (w.heap.size + 1) wr.heap.size (.slice A out.length c) out cs bs) ∧ Below (w.heap.size + 1) w0 wr ∧ w.heap.size + 1 ≤ wr.heap.size ∧ Hid (∀ x ∈ ws.take k, okI x)) (fun _ _ _ _ _ i _ => ws.length - (intOf i).toNat)
  case atStart => exact ⟨0, [], [], fun _ => 0, none, 0, by omega, rfl, rfl, Lib.hid rfl, by simp, Lib.hid (ownC_nil _ _ _), Below.refl _ _, by omega, Lib.hid (by simp)⟩
  case round =>
    obtain ⟨k, out, cs, bs, A, c, hk, rfl, rfl, hout, hlen, hown, hb, hsz, hall⟩ := hrel
    have R1 : RS wr w.heap.size ws := (hb.block _ (by omega)).trans R0.out
    by_cases hlt : k < ws.length
    · have hc := R1.cell hlt
      generalize hx : ws.getD k ⟨#[]⟩ = x at hc
      have hxm : x ∈ ws := by subst hx; rw [List.getD_eq_getElem?_getD, List.getElem?_eq_getElem hlt]; exact List.getElem_mem _
      have hxs : x.size ≤ 1048576 := Nat.le_trans (WS.out x hxm) hs
      have NT := Lib.hid (atI_take ws hlt hx)
      have BW := Lib.hid (B0.out.trans (hb.mono (by omega)))
      have XP := Lib.hid (parseParts_term x hxs m wr (HM.out wr BW.out) (HT.out wr BW.out))
      have BB := Lib.hid hb
      have XM := Lib.hid hxm
      clear hx hxm R1 hb
      go_wp2_with fail
      refine XP.out.mono ?_
      rintro e u ⟨A1, c1, ok, q, xs, rfl, hv, d, hxl, hok, hxs'⟩
      have V1 := Lib.hid hv
      have D1 := Lib.hid d
      have OK := Lib.hid (show ok = true ↔ okI x from hok)
      have XS := Lib.hid (show ok = true → atI x = (parN (numI x), xs) from fun h => by unfold atI; rw [hxs' h]; rfl)
      have zu := d.size
      clear hv d hok hxs' hc
      cases ok
      · go_wp2
        go_ret2
        refine ⟨none, 0, false, [], [], fun _ => 0, rfl, ownC_nil _ _ _, step BW.out D1.out, ?_, fun h => (by cases h)⟩
        rw [HW.out]
        exact ⟨fun h => (by cases h), fun h => by have := OK.out.2 (h x XM.out); cases this⟩
      · have EX := Lib.hid (XS.out rfl)
        have OX := Lib.hid (OK.out.1 rfl)
        generalize parN (numI x) = r at EX
        have HO := Lib.hid ((hown.out.cur (Nat.le_refl _) D1.out).cur zu (below_alloc u (.cells #[.int .i64 r, .slice A1 xs.length c1] 38)))
        have HV := Lib.hid (V1.out.step (below_alloc u (.cells #[.int .i64 r, .slice A1 xs.length c1] 38)))
        clear OK XS
        go_wp2_with (at_builtin; refine wpList_append_lies _ rfl _ _ 25 rfl (w.heap.size + 1) 38 i0 _ 2 32 Tryz.underlying25 hi hz0 hz1 hz2 rfl (by omega) (.slice A out.length c) out.length cs rfl HO.out.1 ⟨u.heap.size, 0, none⟩ 1 1 [.int .i64 r, .slice A1 xs.length c1] rfl rfl (World.news_of_block (cs := #[.int .i64 r, .slice A1 xs.length c1]) (t := 38) (fr := (0, 0)) (heap_alloc_new u _)) (by simp [Value.oneCell']) (by omega) (by unfold maxLen; omega) (by omega) (by (try simp) <;> omega) (u.heap.size + 1) (by simp) ?_; intro g8 cap8 v8 hown8 hgrow8 hat8 hlt8
                     have d8 : Below (w.heap.size + 1) (u.alloc (.cells #[.int .i64 r, .slice A1 xs.length c1] 38)) v8 := (Below.refl _ _).grown hgrow8 (by (try simp) <;> omega) (fun q hq => (HO.out.1.lt q hq).1)
                     obtain ⟨bs8, ho8⟩ := atom.own_append HO.out (Items.one HV.out) (by omega) (by (try simp) <;> omega) hown8 hgrow8
                     have O8 := Lib.hid ho8
                     have b8 := Lib.hid (BB.out.trans (((step D1.out (below_alloc u (.cells #[.int .i64 r, .slice A1 xs.length c1] 38))).mono hsz).trans d8))
                     clear hown8 hgrow8 hat8 ho8 d8)
        go_roundw
        case rel =>
          refine ⟨k + 1, out ++ [(r, xs)], _, bs8, _, _, by omega, by go_num, by rw [List.length_append]; rfl, Lib.hid (by rw [NT.out.1, hout.out, EX.out]), by rw [List.length_append]; simp; omega, Lib.hid (by have := O8.out; rw [List.length_append]; exact this), b8.out, by have := b8.out.size; omega, Lib.hid (by rw [NT.out.2]; intro y hy; rcases List.mem_append.1 hy with hy | hy; exact hall.out y hy; simp at hy; subst hy; exact OX.out)⟩
        case measure => simp [intOf]; omega
    · obtain rfl : k = ws.length := by omega
      have BB := Lib.hid hb
      clear hb R1
      go_wp2
      go_ret2
      refine ⟨A, c, true, out, cs, bs, rfl, hown.out.lo (by omega), B0.out.trans (BB.out.mono (by omega)), ?_, fun _ => ?_⟩
      · rw [HW.out]
        exact ⟨fun _ x hx => hall.out x (by rw [List.take_length]; exact hx), fun _ => rfl⟩
      · rw [HW.out, hout.out, List.take_of_length_le (by simp)]
end Go.Proofs.YtfhlmindkogdoaaGreatDoor

namespace Go.Proofs.YtfhlmindkogdoaaGreatDoor
open Go.ChangeShapes Go.WideShapes Go.ChangeAt Go.RowKit Go.Sort
set_option linter.unusedVariables false
set_option linter.unusedSimpArgs false

theorem tS_take (ws : List ByteArray) {k : Nat} (hk : k < ws.length) {x : ByteArray} (hx : ws.getD k ⟨#[]⟩ = x) : (ws.map tS).take (k + 1) = (ws.map tS).take k ++ [tS x] := by
  have hk' : k < (ws.map tS).length := by simpa using hk
  rw [List.take_succ_eq_append_getElem hk']
  subst hx
  simp [List.getD_eq_getElem?_getD, hk]
/-- An atom that was read. -/
def PsOut (w : World) (f : Int × List Int) (e : Ending) (w' : World) : Prop :=
  ∃ A c q, e = .returned (.agg #[.int .i64 f.1, .slice A f.2.length c]) ∧ OwnV w' w.heap.size w'.heap.size (.slice A f.2.length c) q f.2 ∧ Below w.heap.size w w'
set_option maxRecDepth 100000 in
set_option maxHeartbeats 2000000 in
theorem l3ParseAtom_any (s : ByteArray) (hs : s.size ≤ 1048576) (w : World) :
    Calls Tryz.prog 60 #[.string s] w (PsOut w (atS s)) := by
  obtain ⟨i0, hi, hz0, hz1, hz2⟩ := info_parts int_info
  have B0 := Lib.hid (below_alloc w (.cells #[.int .i64 0, .slice none 0 0] 38))
  have X0 := Lib.hid (Box.new w #[.int .i64 0, .slice none 0 0] 38)
  go_enter Tryz.func60, Tryz.ntmps60
  go_wp2_with fail
  refine (l2Call_any s hs _).mono ?_
  rintro e w1 ⟨H, ws, A1, c1, rfl, hst, d1, hcall⟩
  have B1 := Lib.hid (step B0.out d1)
  have X1 := Lib.hid (X0.out.step d1)
  have EA := Lib.hid (atS_of hcall)
  obtain ⟨hH, hwl, hwx⟩ := hcall.le
  have WX := Lib.hid hwx
  have ST := Lib.hid hst
  clear d1 hcall hwx hst
  go_wp2_with fail
  refine (l2Rel_any H (by omega) _).mono ?_
  rintro e w2 ⟨rfl, d2⟩
  have B2 := Lib.hid (step B1.out d2)
  have X2 := Lib.hid (X1.out.step d2)
  have ST2 := Lib.hid (ST.out.step (Nat.le_refl _) d2)
  generalize relS H = r at EA ⊢
  have lw2 := X2.out.lt
  have Y3 := Lib.hid (Box.new w2 #[.int .i64 r, .slice none 0 0] 38)
  obtain ⟨w3, hw3⟩ : ∃ W, W = w2.alloc (.cells #[.int .i64 r, .slice none 0 0] 38) := ⟨_, rfl⟩
  have B3 := Lib.hid (show Below w2.heap.size w2 w3 by rw [hw3]; exact below_alloc _ _)
  have Z3 : w3.heap.size = w2.heap.size + 1 := by rw [hw3, al_size]
  rw [← hw3] at Y3
  have E3 := Lib.hid hw3
  clear d2 hw3
  go_wp2_with fail
  go_loopw [6] (fun i wr => ∃ (k : Nat) (A : Option Addr) (c : Nat), k ≤ ws.length ∧ i = .int .i64 k ∧ Box wr w2.heap.size #[.int .i64 r, .slice A k c] 38 ∧ wr.ownsRow (w2.heap.size + 1) 3 1 (.slice A k c) k (((ws.map tS).take k).map (Value.int .i64)) ∧ Below w2.heap.size w2 wr ∧ w2.heap.size + 1 ≤ wr.heap.size) (fun i _ => ws.length - (intOf i).toNat)
  case atStart =>
    rw [← E3.out]
    exact ⟨0, none, 0, by omega, rfl, Y3.out, ⟨by simp, .inl ⟨rfl, rfl⟩⟩, B3.out, by omega⟩
  case round =>
    obtain ⟨k, A, c, hk, rfl, hY, hown, hb, hsz⟩ := hrel
    have HY := Lib.hid hY
    have HO := Lib.hid hown
    have HB := Lib.hid hb
    clear hown hb
    by_cases hlt : k < ws.length
    · obtain ⟨g1, rfl, hg1, hcell⟩ := ST2.out (by intro e; rw [e] at hlt; simp at hlt)
      have hc := ((HB.out.cell (p := ⟨g1, k, none⟩) hg1).trans (hcell k hlt))
      generalize hx : ws.getD k ⟨#[]⟩ = x at hc
      have hxm : x ∈ ws := by subst hx; rw [List.getD_eq_getElem?_getD, List.getElem?_eq_getElem hlt]; exact List.getElem_mem _
      have hxs : x.size ≤ 1048576 := Nat.le_trans (WX.out x hxm) hs
      have NT := Lib.hid (tS_take ws hlt hx)
      have XN := Lib.hid (l3ParseTerm_any x hxs)
      generalize tS x = n at NT XN
      have q1 := HY.out.cell 1
      have q3 := HY.out.frozen 1
      simp only [List.getElem?_toArray, List.getElem?_cons_zero, List.getElem?_cons_succ] at q1
      have hk0 : (0 : Int) ≤ (k : Int) := by omega
      have hk1 : (k : Int) < (ws.length : Int) := by omega
      clear hx hxm hcell hY
      go_wp2
      go_region_law (first
        | (refine step_callB rfl 59 _ _ rfl (.string x) _ rfl (by kernel_rfl) (XN.out _) ?_
           intro u5 d5
           have b5 : Below wr.heap.size wr u5 := by first | exact d5 | exact und d5 | exact undN d5
           have q15 := (b5.cell (p := ⟨w2.heap.size, 1, none⟩) (by (try simp) <;> omega)).trans q1
           have q35 := (b5.frozen (p := ⟨w2.heap.size, 1, none⟩) (by (try simp) <;> omega)).trans q3
           have z5 := b5.size
           have HO5 := Lib.hid (ownsRow_step HO.out b5)
           have hb5 : Below (w2.heap.size + 1) wr u5 := b5.mono hsz
           have hz5 : w2.heap.size + 1 ≤ u5.heap.size := by omega
           have q17 := ((below_alloc u5 (.cells #[.int .i64 n] 3)).cell (p := ⟨w2.heap.size, 1, none⟩) (by (try simp) <;> omega)).trans q15
           have q37 := ((below_alloc u5 (.cells #[.int .i64 n] 3)).frozen (p := ⟨w2.heap.size, 1, none⟩) (by (try simp) <;> omega)).trans q35
           clear d5)
        | (refine step_pushR rfl _ _ _ 3 rfl i0 Tryz.underlying24 hi (.int .i64 0) 8 hz0 hz1 hz2 rfl (by omega) (w2.heap.size + 1) k _ (((ws.map tS).take k).map (Value.int .i64)) _ 1 (.int .i64 n) rfl rfl rfl (by first | exact HO5.out.alloc _ | exact (HO5.out.alloc _).drew | exact HO5.out.drew.alloc _) (by first | exact hb5.alloc hz5 _ | exact (hb5.alloc hz5 _).drew | exact hb5.drew.alloc hz5 _) (by (try simp) <;> omega) (by omega) (by simp [Addr.add]) ?_
           intro v6 u6 hown6 hb6 hz6
           obtain ⟨A6, c6, rfl⟩ := ownsRow_form hown6
           have q16 := (hb6.cell (p := ⟨w2.heap.size, 1, none⟩) (by (try simp) <;> omega)).trans q1
           have q36 := (hb6.frozen (p := ⟨w2.heap.size, 1, none⟩) (by (try simp) <;> omega)).trans q3
           have z6 := hb6.size
           have HO6 := Lib.hid hown6
           clear hown6 hz6))
      all_goals
        clear q15 q35 q16 q36 q17 q37 q1 q3 hc
        go_wp2
        go_roundw
        case rel =>
          refine ⟨k + 1, A6, c6, by omega, by go_num, box_set1 (show Box u6 w2.heap.size #[.int .i64 r, .slice A k c] 38 from (hb6.block _ (by omega)).trans HY.out), ?_, (HB.out.trans (hb6.mono (by omega))).setCell (Nat.le_refl _) _, by rw [set_size]; omega⟩
          rw [NT.out, List.map_append]
          exact ownsRow_set HO6.out (show w2.heap.size < _ by omega)
        case measure => simp [intOf]; omega
    · obtain rfl : k = ws.length := by omega
      have hnl : (ws.map tS).length = ws.length := by simp
      have hown2 : wr.ownsRow (w2.heap.size + 1) 3 1 (.slice A ws.length c) ws.length ((ws.map tS).map (Value.int .i64)) := by have := HO.out; rw [List.take_of_length_le (by omega)] at this; exact this
      obtain ⟨q, hv⟩ := ownV_of_row hown2
      rw [← hnl] at hv hY
      generalize hxs : ws.map tS = xs at hv hY hnl EA
      have HV := Lib.hid hv
      have B4 := Lib.hid (B2.out.trans (HB.out.mono (by omega)))
      have X4 := Lib.hid (show Box wr w.heap.size #[.int .i64 0, .slice none 0 0] 38 from (HB.out.block _ lw2).trans X2.out)
      have Y4 := Lib.hid hY
      rw [← hnl] at *
      clear hown2 hv hY hxs hnl HO HY
      have y0 := Y4.out.cell 0
      have y1 := Y4.out.cell 1
      have q0 := X4.out.cell 0
      have q1 := X4.out.cell 1
      have q2 := X4.out.frozen 0
      have q3 := X4.out.frozen 1
      simp only [List.getElem?_toArray, List.getElem?_cons_zero, List.getElem?_cons_succ] at y0 y1 q0 q1
      go_wp2
      refine bodyPost_ret (v := .agg #[.int .i64 r, .slice A xs.length c]) (by simp [results, Tryz.results60, go_sem, q0, q1, q2, q3]) rfl ?_
      rw [EA.out]
      refine (show PsOut w (r, xs) _ _ from ⟨A, c, q, rfl, ?_, Below.setCell (Below.setCell B4.out (Nat.le_refl _) _) (Nat.le_refl _) _⟩)
      rw [size2]
      exact (HV.out.keep fun h1 _ _ => (Below.heap_setCell _ ⟨w.heap.size, 1, none⟩ _ q (by (try simp at h1 ⊢); omega)).trans (Below.heap_setCell _ ⟨w.heap.size, 0, none⟩ _ q (by (try simp at h1 ⊢); omega))).mono (by omega) (Nat.le_refl _)
end Go.Proofs.YtfhlmindkogdoaaGreatDoor

namespace Go.Proofs.YtfhlmindkogdoaaGreatDoor
open Go.ChangeShapes Go.WideShapes Go.ChangeAt Go.RowKit Go.Sort
set_option linter.unusedVariables false
set_option linter.unusedSimpArgs false

theorem ownP_mono {w : World} {lo hi lo' hi' g m k : Nat} {fs : FL} (h : atom.OwnP w lo hi g m k fs) (a : lo' ≤ lo) (b : hi ≤ hi') : atom.OwnP w lo' hi' g m k fs := by
  obtain ⟨h1, h2, F, bs, hr, he, hd⟩ := h
  exact ⟨by omega, by omega, F, bs, hr, fun j hj => ⟨(he j hj).1, (he j hj).2.mono a b⟩, hd⟩
theorem QO.mono {w : World} {lo mid hi lo' hi' : Nat} {H A : Option Addr} {ch c : Nat} {hs : List Int} {l : FL} (h : QO w lo mid hi H A ch c hs l) (a : lo' ≤ lo) (b : hi ≤ hi') (d : hi' ≤ w.heap.size) : QO w lo' mid hi' H A ch c hs l := by
  obtain ⟨⟨q, h1⟩, h2, h3, h4, h5⟩ := h
  refine ⟨⟨q, h1.mono a (Nat.le_refl _)⟩, ?_, by omega, by omega, d⟩
  rcases h2 with h2 | ⟨g, m, e, h2, h6⟩
  · exact .inl h2
  · exact .inr ⟨g, m, e, ownP_mono h2 (Nat.le_refl _) b, h6⟩
theorem qo_make {w : World} {lo mid ch c q : Nat} {H A : Option Addr} {hs : List Int} {l : FL} {cs : List Value} {bs : Nat → Nat} (hv : OwnV w lo mid (.slice H hs.length ch) q hs) (ho : atom.OwnC w mid w.heap.size (.slice A l.length c) l cs bs) (h1 : lo ≤ mid) (h2 : mid ≤ w.heap.size) : QO w lo mid w.heap.size H A ch c hs l := by
  refine ⟨⟨q, hv⟩, ?_, h1, h2, Nat.le_refl _⟩
  rcases A with _ | ⟨g, off, spot⟩
  · rcases ho.1.2 with ⟨_, h0⟩ | ⟨g, cap, _, hv, _⟩
    · exact .inl (List.eq_nil_of_length_eq_zero h0)
    · cases hv
  · have hg : off = 0 ∧ spot = none := by
      rcases ho.1.2 with ⟨hv, _⟩ | ⟨g', cap, _, hv, _⟩
      · cases hv
      · injection hv with e1
        injection e1 with e1
        injection e1 with _ e2 e3
        exact ⟨e2, e3⟩
    obtain ⟨rfl, rfl⟩ := hg
    obtain ⟨_, hc, hp⟩ := ho.to_P
    exact .inr ⟨g, c * 2, rfl, hp, by omega⟩
/-- A query that was read. -/
def PqOut (w : World) (hs : List Int) (l : FL) (ok : Bool) (e : Ending) (w' : World) : Prop :=
  ∃ mid H ch A c, e = .returned (.tuple #[.agg #[.slice H hs.length ch, .slice A l.length c], .bool ok]) ∧ QO w' w.heap.size mid w'.heap.size H A ch c hs l ∧ Below w.heap.size w w'
def PqIs (w : World) (p : List Int × FL × Bool) (e : Ending) (w' : World) : Prop := PqOut w p.1 p.2.1 p.2.2 e w'
theorem pq_none {w w' : World} (b : Below w.heap.size w w') : PqOut w [] [] false (.returned (.tuple #[.agg #[.slice none 0 0, .slice none 0 0], .bool false])) w' :=
  ⟨w.heap.size, none, 0, none, 0, rfl, ⟨⟨0, ownV_nil _ _ _⟩, .inl rfl, Nat.le_refl _, b.size, Nat.le_refl _⟩, b⟩
theorem bdQ_lt {s : ByteArray} (hs : s.size ≤ 1048576) : (bdQ s).size ≤ 1048572 := by
  unfold bdQ Lib.cut
  split
  · rename_i h
    have := Lib.index_room _ _ h
    simp only [size_eq', List.length_drop] at this hs ⊢
    have e : sepIf.length = 4 := rfl
    omega
  · simp only [size_eq']; simp
theorem cutQ_at (s : ByteArray) (hs : s.size ≤ 1048576) (m : Int) (W : World) (hm : W.cell? ⟨0, 0, none⟩ = some (.int .i64 m)) :
    Calls Tryz.prog 41 #[.string s, .string ⟨#[32, 105, 102, 32]⟩] W fun e w' => e = .returned (.tuple #[.string (hdQ s), .string (bdQ s), .bool (fdQ s)]) ∧ Below W.heap.size W w' := by
  refine (Tryz.strings_Cut s ⟨#[32, 105, 102, 32]⟩ m W (by omega) hm).mono ?_
  rintro e w' ⟨rfl, n, rfl⟩
  exact ⟨rfl, below_drewN (Below.refl _ _) n⟩

set_option maxRecDepth 100000 in
set_option maxHeartbeats 2000000 in
theorem impl_ParseQuery (S : Option Addr) (cS : Nat) (sch : List Int) (hls : sch.length ≤ 1048576) (s : ByteArray) (hs : s.size ≤ 1048576) (m : Int) (w : World) (h : RI w S sch) (hm : w.cell? ⟨0, 0, none⟩ = some (.int .i64 m)) (ht : Tab w) :
    Calls Tryz.prog 8 #[.slice S sch.length cS, .string s] w (PqIs w (prsQ sch s)) := by
  have HT := Lib.hid (Lib.tabBelow_of_tabIs ht)
  have B0 := Lib.hid (below_alloc w (.cells #[.slice none 0 0, .slice none 0 0] 27))
  have HM := Lib.hid (fun (W : World) (hW : Below w.heap.size w W) => (hW.cell (p := ⟨0, 0, none⟩) (by
    show 0 < w.heap.size
    rcases Nat.eq_zero_or_pos w.heap.size with h0 | h0
    · simp [World.cell?, Array.getElem?_eq_none (show w.heap.size ≤ 0 by omega)] at hm
    · exact h0)).trans hm)
  have HI := Lib.hid h
  have X0 := Lib.hid (Box.new w #[.slice none 0 0, .slice none 0 0] 27)
  have CU := Lib.hid (fun (W : World) (hW : Below w.heap.size w W) => cutQ_at s hs m W (HM.out W hW))
  have PH := Lib.hid (fun (W : World) (hW : Below w.heap.size w W) => parseHead_any (hdQ s) m (Nat.le_trans (hdQ_size s).1 hs) W (HM.out W hW) (HT.out W hW))
  have PA := Lib.hid (fun (W : World) (hW : Below w.heap.size w W) => parseAtoms_any (bdQ s) m (Nat.le_trans (hdQ_size s).2 hs) W (HM.out W hW) (HT.out W hW))
  clear hm ht h
  go_enter Tryz.func8, Tryz.ntmps8
  go_wp2_with fail
  refine (CU.out _ B0.out).mono ?_
  rintro e w1 ⟨rfl, d1⟩
  have B1 := Lib.hid (step B0.out d1)
  have X1 := Lib.hid (X0.out.step d1)
  have N1 : w.heap.size < w1.heap.size := X1.out.lt
  clear d1
  go_wp2_with fail
  refine (PH.out _ B1.out).mono ?_
  rintro e w2 ⟨H, ch, ok1, q1, hs', rfl, hv, d2, hhl, hok1, hh1⟩
  have B2 := Lib.hid (step B1.out d2)
  have X2 := Lib.hid (X1.out.step d2)
  have N2 := d2.size
  have V2 := Lib.hid hv
  have K1 := Lib.hid (show ∀ b, ok1 = b → (b = true ↔ okH (hdQ s)) from fun b hb => by subst hb; exact hok1)
  have L1 := Lib.hid (show ∀ b, ok1 = b → b = true → hs' = hsI (hdQ s) from fun b hb h => by subst hb; exact hh1 h)
  have HL := Lib.hid (show hs'.length ≤ 1048577 by have := (hdQ_size s).1; omega)
  clear hv d2 hhl hok1 hh1
  go_wp2_with fail
  refine (PA.out _ B2.out).mono ?_
  rintro e w3 ⟨A, c, ok2, l, cs, bs, rfl, ho, d3, hok2, hl2⟩
  have B3 := Lib.hid (step B2.out d3)
  have X3 := Lib.hid (X2.out.step d3)
  have N3 := d3.size
  have Q3 := Lib.hid (qo_make (V2.out.keep fun _ b _ => d3.block _ b) ho N2 N3)
  have K2 := Lib.hid (show ∀ b, ok2 = b → (b = true ↔ ∀ p ∈ partsQ (bdQ s), okI p) from fun b hb => by subst hb; exact hok2)
  have L2 := Lib.hid (show ∀ b, ok2 = b → b = true → l = (partsQ (bdQ s)).map atI from fun b hb h => by subst hb; exact hl2 h)
  clear ho d3 hok2 hl2 V2
  obtain ⟨w4, hw4⟩ : ∃ W, W = w3.alloc (.cells #[.slice H hs'.length ch, .slice A l.length c] 27) := ⟨_, rfl⟩
  have EW := Lib.hid hw4
  have d4 : Below w3.heap.size w3 w4 := by rw [hw4]; exact below_alloc _ _
  have B4 := Lib.hid (step B3.out d4)
  have X4 := Lib.hid (X3.out.step d4)
  have Y4 := Lib.hid (show Box w4 w3.heap.size #[.slice H hs'.length ch, .slice A l.length c] 27 by rw [hw4]; exact Box.new _ _ _)
  have Q4 := Lib.hid (Q3.out.step d4)
  have I4 := Lib.hid (HI.out.step B4.out)
  clear d4 hw4 Q3
  cases ok1
  · have E := Lib.hid (prsQ_no (S := sch) (s := s) fun h => by have := (K1.out false rfl).2 h.1; cases this)
    cases ok2
    · have q0 := X4.out.cell 0
      have q1 := X4.out.cell 1
      have q2 := X4.out.frozen 0
      have q3 := X4.out.frozen 1
      simp only [List.getElem?_toArray, List.getElem?_cons_zero, List.getElem?_cons_succ] at q0 q1
      have B4' := B4.out
      rw [EW.out] at q0 q1 q2 q3 B4'
      go_wp2
      refine bodyPost_ret (v := .tuple #[.agg #[.slice none 0 0, .slice none 0 0], .bool false]) (by simp [results, Tryz.results8, go_sem, q0, q1, q2, q3]) rfl ?_
      rw [E.out]
      exact pq_none (Below.setCell (Below.setCell B4' (Nat.le_refl _) _) (Nat.le_refl _) _)
    · have q0 := X4.out.cell 0
      have q1 := X4.out.cell 1
      have q2 := X4.out.frozen 0
      have q3 := X4.out.frozen 1
      simp only [List.getElem?_toArray, List.getElem?_cons_zero, List.getElem?_cons_succ] at q0 q1
      have B4' := B4.out
      rw [EW.out] at q0 q1 q2 q3 B4'
      go_wp2
      refine bodyPost_ret (v := .tuple #[.agg #[.slice none 0 0, .slice none 0 0], .bool false]) (by simp [results, Tryz.results8, go_sem, q0, q1, q2, q3]) rfl ?_
      rw [E.out]
      exact pq_none (Below.setCell (Below.setCell B4' (Nat.le_refl _) _) (Nat.le_refl _) _)
  · cases ok2
    · have E := Lib.hid (prsQ_no (S := sch) (s := s) fun h => by have := (K2.out false rfl).2 h.2.1; cases this)
      have q0 := X4.out.cell 0
      have q1 := X4.out.cell 1
      have q2 := X4.out.frozen 0
      have q3 := X4.out.frozen 1
      simp only [List.getElem?_toArray, List.getElem?_cons_zero, List.getElem?_cons_succ] at q0 q1
      have B4' := B4.out
      rw [EW.out] at q0 q1 q2 q3 B4'
      go_wp2
      refine bodyPost_ret (v := .tuple #[.agg #[.slice none 0 0, .slice none 0 0], .bool false]) (by simp [results, Tryz.results8, go_sem, q0, q1, q2, q3]) rfl ?_
      rw [E.out]
      exact pq_none (Below.setCell (Below.setCell B4' (Nat.le_refl _) _) (Nat.le_refl _) _)
    · have OH := Lib.hid ((K1.out true rfl).1 rfl)
      have OA := Lib.hid ((K2.out true rfl).1 rfl)
      obtain rfl := L1.out true rfl rfl
      obtain rfl := L2.out true rfl rfl
      have SZ : szF ((partsQ (bdQ s)).map atI) ≤ 1048576 := by
        have h1 := sum_atI _ OA.out
        have h2 := parts_sz (bdQ s)
        have h3 := bdQ_lt hs
        omega
      have OK := Lib.hid (show ∀ hs l, hsI (hdQ s) = hs → (partsQ (bdQ s)).map atI = l → (queryB sch hs l = true ∧ fmtQ hs l = s → prsQ sch s = (hs, l, true)) ∧ (¬ (queryB sch hs l = true ∧ fmtQ hs l = s) → prsQ sch s = ([], [], false)) from fun hs l e1 e2 => by
        subst e1; subst e2
        exact ⟨fun h => prsQ_yes ⟨OH.out, OA.out, h⟩, fun h => prsQ_no fun k => h k.2.2⟩)
      generalize hH : hsI (hdQ s) = hs' at *
      generalize hL : (partsQ (bdQ s)).map atI = l at *
      have EY := Lib.hid (OK.out hs' l rfl rfl)
      have hhl := HL.out
      clear hH hL OK L1 L2 K1 K2 OH OA
      have y0 := Y4.out.cell 0
      have y1 := Y4.out.cell 1
      simp only [List.getElem?_toArray, List.getElem?_cons_zero, List.getElem?_cons_succ] at y0 y1
      rw [EW.out] at y0 y1
      go_wp2_with fail
      rw [← EW.out] at y0 y1 ⊢
      refine (impl_IsQuery S H A cS ch c sch hs' l hls hhl SZ _ I4.out Q4.out.ri Q4.out.rf).mono ?_
      rintro e w5 ⟨he, d5⟩
      have B5 := Lib.hid (step B4.out d5)
      have X5 := Lib.hid (X4.out.step d5)
      have Y5 := Lib.hid (Y4.out.step d5)
      have Q5 := Lib.hid (Q4.out.step d5)
      have T5 := Lib.hid (HT.out _ B5.out)
      clear d5 y0 y1
      cases hF : queryB sch hs' l
      · have E := Lib.hid (EY.out.2 fun h => by have := h.1; rw [hF] at this; cases this)
        rw [hF] at he
        subst he
        clear hF
        have q0 := X5.out.cell 0
        have q1 := X5.out.cell 1
        have q2 := X5.out.frozen 0
        have q3 := X5.out.frozen 1
        simp only [List.getElem?_toArray, List.getElem?_cons_zero, List.getElem?_cons_succ] at q0 q1
        go_wp2
        refine bodyPost_ret (v := .tuple #[.agg #[.slice none 0 0, .slice none 0 0], .bool false]) (by simp [results, Tryz.results8, go_sem, q0, q1, q2, q3]) rfl ?_
        rw [E.out]
        exact pq_none (Below.setCell (Below.setCell B5.out (Nat.le_refl _) _) (Nat.le_refl _) _)
      · have HF := Lib.hid hF
        rw [hF] at he
        subst he
        clear hF
        have y0 := Y5.out.cell 0
        have y1 := Y5.out.cell 1
        simp only [List.getElem?_toArray, List.getElem?_cons_zero, List.getElem?_cons_succ] at y0 y1
        go_wp2_with fail
        refine (impl_FormatQuery H A ch c hs' l hhl SZ _ Q5.out.ri Q5.out.rf T5.out).mono ?_
        rintro e w6 ⟨rfl, d6⟩
        have B6 := Lib.hid (step B5.out d6)
        have X6 := Lib.hid (X5.out.step d6)
        have Y6 := Lib.hid (Y5.out.step d6)
        have Q6 := Lib.hid (Q5.out.step d6)
        have z6 := d6.size
        clear d6 y0 y1
        by_cases c3 : fmtQ hs' l = s
        · have E := Lib.hid (EY.out.1 ⟨HF.out, c3⟩)
          have c4 : ((fmtQ hs' l).toList == s.toList) = true := by rw [c3]; simp
          have c5 : (fmtQ hs' l).toList = s.toList := by rw [c3]
          clear c3
          have q0 := X6.out.cell 0
          have q1 := X6.out.cell 1
          have q2 := X6.out.frozen 0
          have q3 := X6.out.frozen 1
          simp only [List.getElem?_toArray, List.getElem?_cons_zero, List.getElem?_cons_succ] at q0 q1
          have y0 := Y6.out.cell 0
          have y1 := Y6.out.cell 1
          simp only [List.getElem?_toArray, List.getElem?_cons_zero, List.getElem?_cons_succ] at y0 y1
          go_wp2
          refine bodyPost_ret (v := .tuple #[.agg #[.slice H hs'.length ch, .slice A l.length c], .bool true]) (by simp [results, Tryz.results8, go_sem, q0, q1, q2, q3]) rfl ?_
          rw [E.out]
          refine (show PqOut w hs' l true _ _ from ⟨_, H, ch, A, c, rfl, QO.mono (Q6.out.keep (fun b h1 _ => (Below.heap_setCell _ ⟨w.heap.size, 1, none⟩ _ b (by (try simp at h1 ⊢); omega)).trans (Below.heap_setCell _ ⟨w.heap.size, 0, none⟩ _ b (by (try simp at h1 ⊢); omega))) (by rw [size2]; exact Nat.le_refl _)) (by omega) (by rw [size2]; exact Q6.out.2.2.2.2) (Nat.le_refl _), ?_⟩)
          exact Below.setCell (Below.setCell B6.out (Nat.le_refl _) _) (Nat.le_refl _) _
        · have E := Lib.hid (EY.out.2 fun h => c3 h.2)
          have c5 := ba_ne c3
          have c6 : ((fmtQ hs' l).toList == s.toList) = false := by simpa using c5
          have c7 : ((fmtQ hs' l).toList != s.toList) = true := by simpa using c5
          clear c3
          have q0 := X6.out.cell 0
          have q1 := X6.out.cell 1
          have q2 := X6.out.frozen 0
          have q3 := X6.out.frozen 1
          simp only [List.getElem?_toArray, List.getElem?_cons_zero, List.getElem?_cons_succ] at q0 q1
          go_wp2
          refine bodyPost_ret (v := .tuple #[.agg #[.slice none 0 0, .slice none 0 0], .bool false]) (by simp [results, Tryz.results8, go_sem, q0, q1, q2, q3]) rfl ?_
          rw [E.out]
          exact pq_none (Below.setCell (Below.setCell B6.out (Nat.le_refl _) _) (Nat.le_refl _) _)
end Go.Proofs.YtfhlmindkogdoaaGreatDoor
