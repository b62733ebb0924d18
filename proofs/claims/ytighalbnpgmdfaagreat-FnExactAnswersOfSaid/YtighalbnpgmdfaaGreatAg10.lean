/- What the model's BindingsOf answers on a few atoms and facts. Conditions: none beyond each theorem's own. What the two functions that compare lists of numbers answer. Conditions: none beyond each theorem's own. What the two functions SameTuples answer. Conditions: none beyond each theorem's own. -/
import Derived.Test.YtighalbnpgmdfaaGreatAg9
import Derived.Test.YtighalbnpgmdfaaGreatEqList
import Derived.Test.YtighalbnpgmdfaaGreatTup
import Derived.Lib.QuietBelow

namespace Go.Proofs.YtighalbnpgmdfaaGreat
open Go.ChangeShapes Go.WideShapes Go.ChangeAt Go.RowKit Go.Sort
set_option linter.unusedVariables false
set_option linter.unusedSimpArgs false

/-- How long a binding is. -/
theorem mtF_len {p q : PL} {a f : Int × List Int} (h : mtF p a f = some q) : q.1.length = q.2.length ∧ q.1.length ≤ p.1.length + a.2.length := by
  unfold mtF matB at h
  split at h
  · rename_i hc
    have := mgo_len _ _ _ _ h hc.2.2
    exact ⟨this.1, this.2.2⟩
  · cases h
theorem bndsF_elem (fs : FL) (m : Nat) : ∀ (ats : FL), (∀ a ∈ ats, a.2.length ≤ m) → ∀ ps : List PL, ∀ n, (∀ p ∈ ps, p.1.length = p.2.length ∧ p.1.length ≤ n) → ∀ p ∈ bndsF fs ats ps, p.1.length = p.2.length ∧ p.1.length ≤ n + m * ats.length
  | [], _, ps, n, h, p, hp => by simpa using h p hp
  | a :: ats, ha, ps, n, h, p, hp => by
    have ih := bndsF_elem fs m ats (fun b hb => ha b (List.mem_cons_of_mem _ hb)) (extB fs a ps) (n + m) (fun q hq => by
      unfold extB extA at hq
      rw [List.mem_flatMap] at hq
      obtain ⟨r, hr, hq⟩ := hq
      rw [List.mem_filterMap] at hq
      obtain ⟨f, _, hf⟩ := hq
      have h1 := mtF_len hf
      have h2 := (h r hr).2
      have h3 := ha a (List.mem_cons_self)
      exact ⟨h1.1, by omega⟩) p hp
    rw [List.length_cons, Nat.mul_add, Nat.mul_one]
    exact ⟨ih.1, by omega⟩
theorem bnds_few (fs ats : FL) (hf : fs.length ≤ 24) (ha : ats.length ≤ 4) : (bnds fs ats).length ≤ 331776 := by
  have h := bndsF_len fs 24 hf ats [noP]
  have h2 : (24 : Nat) ^ ats.length ≤ 24 ^ 4 := Nat.pow_le_pow_right (by omega) ha
  unfold bnds
  have e : ([noP] : List PL).length = 1 := rfl
  rw [e, Nat.one_mul] at h
  have : (24 : Nat) ^ 4 = 331776 := by decide
  exact Nat.le_trans h (by omega)

set_option maxRecDepth 100000 in
set_option maxHeartbeats 2000000 in
theorem spec_BindingsOf (H Q : Option Addr) (ch c : Nat) (hs : List Int) (ats : FL) (F : Option Addr) (cf : Nat) (fs : FL)
    (ha : ats.length ≤ 4) (hat : ∀ a ∈ ats, a.2.length ≤ 1024) (hf : fs.length ≤ 24) (hfl : szF fs ≤ 1048576)
    (w : World) (hQ : RF w Q ats) (hF : RF w F fs) :
    Calls Tryz.prog 30 #[.agg #[.slice H hs.length ch, .slice Q ats.length c], .slice F fs.length cf] w (BOut w (bnds fs ats)) := by
  have ha' : (ats.length : Int) ≤ 4 := by omega
  have B0 := Lib.hid (step (below_alloc w (.cells #[.slice H hs.length ch, .slice Q ats.length c] 34)) (below_alloc _ (.cells #[.slice none 0 0, .slice none 0 0] 66)))
  have X0 := Lib.hid ((Box.new w #[.slice H hs.length ch, .slice Q ats.length c] 34).step (below_alloc _ (.cells #[.slice none 0 0, .slice none 0 0] 66)))
  have C0 := Lib.hid (show BC ((w.alloc (.cells #[.slice H hs.length ch, .slice Q ats.length c] 34)).alloc (.cells #[.slice none 0 0, .slice none 0 0] 66)) w.heap.size (.slice (some ⟨w.heap.size + 1, 0, none⟩) ([noP] : List PL).length 1) [noP] from
    ⟨[.slice none 0 0, .slice none 0 0], by have := World.ownsRow_lit (base := w.heap.size) (e := 66) (size := 2) (w.alloc (.cells #[.slice H hs.length ch, .slice Q ats.length c] 34)) #[.slice none 0 0, .slice none 0 0] 1 (by simp) (by unfold maxLen; omega) rfl; simpa using this, fun k hk => by
      have : k = 0 := by simpa using hk
      subst this
      exact ⟨_, _, rfl, rfl, none, 0, none, 0, rfl, rfl, RW.nil _ _, RW.nil _ _⟩⟩)
  have HQ := Lib.hid hQ
  have HF := Lib.hid hF
  have HA := Lib.hid hat
  clear hQ hF hat
  go_enter Tryz.func30, Tryz.ntmps30
  go_wp2
  go_loopw [5, 6] (fun o i wr => ∃ (k : Nat) (A : Option Addr) (ca : Nat) (out : List PL), k ≤ ats.length ∧ i = .int .i64 k ∧ o = .slice A out.length ca ∧ Hid (out = bndsF fs (ats.take k) [noP]) ∧ Hid (BC wr w.heap.size (.slice A out.length ca) out) ∧ Hid (Box wr w.heap.size #[.slice H hs.length ch, .slice Q ats.length c] 34) ∧ Hid (Below w.heap.size w wr)) (fun _ i _ => ats.length - (intOf i).toNat)
  case atStart => exact ⟨0, _, 1, [noP], by omega, rfl, rfl, Lib.hid rfl, C0, X0, B0⟩
  case round =>
    clear C0 X0 B0
    obtain ⟨k, A, ca, out, hk, rfl, rfl, hO, hC, hX, hb⟩ := hrel
    have x1 := hX.out.cell 1
    simp only [List.getElem?_toArray, List.getElem?_cons_zero, List.getElem?_cons_succ] at x1
    have hk0 : (0 : Int) ≤ (k : Int) := by omega
    by_cases hlt : k < ats.length
    · have hk1 : (k : Int) < (ats.length : Int) := by omega
      generalize hf0 : ats.getD k (0, []) = a
      obtain ⟨r, ts⟩ := a
      have TK := Lib.hid (bndsF_take fs ats [noP] hlt hf0)
      have hl1 : (ats.take k).length ≤ 3 := by rw [List.length_take]; omega
      have hel := bndsF_elem fs 1024 (ats.take k) (fun a h => HA.out a (List.mem_of_mem_take h)) [noP] 0 (fun p hp => by
        have : p = noP := by simpa using hp
        subst this
        exact ⟨rfl, Nat.le_refl _⟩)
      have hts : ts.length ≤ 1024 := by
        have := HA.out (r, ts) (by rw [← hf0, List.getD_eq_getElem?_getD, List.getElem?_eq_getElem hlt]; exact List.getElem_mem _)
        exact this
      have hlen := bnds_few fs (ats.take k) hf (by omega)
      unfold bnds at hlen
      rw [← hO.out] at hel hlen
      have hmul : out.length * fs.length ≤ 331776 * 24 := Nat.mul_le_mul hlen hf
      obtain ⟨b, off, T0, tc, rfl, nb, e0, e1, _, _, hT⟩ := (HQ.out.step hb.out).at_ hlt hf0
      have XE := Lib.hid (l4Extend_any A ca out r ts T0 tc F cf fs w.heap.size (by omega) (by omega) hfl (fun p hp => by have := hel p hp; omega) wr hC.out hT (HF.out.step hb.out))
      clear hel hf0 hT
      go_wp2_with fail
      refine XE.out.mono ?_
      rintro e u ⟨A5, c5, rfl, hC5, d5⟩
      have C5 := Lib.hid (hC5.lo hb.out.size)
      have D5 := Lib.hid (step hb.out d5)
      have X5 := Lib.hid (hX.out.step d5)
      have O5 := Lib.hid (show extB fs (r, ts) out = bndsF fs (ats.take (k + 1)) [noP] by rw [TK.out, hO.out])
      clear hC5 d5
      go_wp2
      go_roundw
      case rel => exact ⟨k + 1, A5, c5, _, by omega, by go_num, rfl, O5, C5, X5, D5⟩
      case measure => simp [intOf]; omega
    · obtain rfl : k = ats.length := by omega
      have OO := Lib.hid (show out = bnds fs ats by rw [hO.out, List.take_length]; rfl)
      go_wp2
      go_ret
      rw [← OO.out]
      exact ⟨A, ca, rfl, hC.out, hb.out⟩
end Go.Proofs.YtighalbnpgmdfaaGreat

namespace Go.Proofs.YtighalbnpgmdfaaGreat
open Go.ChangeShapes Go.WideShapes Go.ChangeAt Go.RowKit Go.Sort
set_option linter.unusedVariables false
set_option linter.unusedSimpArgs false

set_option maxRecDepth 100000 in
set_option maxHeartbeats 1000000 in
theorem l2Ints_any (lo hi lo' hi' : Nat) (A A' : Option Addr) (c c' : Nat) (xs ys : List Int) (hl : xs.length ≤ 140737488355328) (hl2 : ys.length ≤ 140737488355328) (w : World) (h : Ints w lo hi A xs) (h' : Ints w lo' hi' A' ys) :
    Calls Tryz.prog 89 #[.slice A xs.length c, .slice A' ys.length c'] w fun e w' => e = .returned (.bool (decide (xs = ys))) ∧ Below w.heap.size w w' := by
  by_cases hlen : xs.length = ys.length
  · have HI := Lib.hid h
    have HJ := Lib.hid h'
    have HL := Lib.hid hlen
    clear h h'
    have hl' : (xs.length : Int) ≤ 140737488355328 := by omega
    rw [← hlen]
    clear hlen
    go_enter Tryz.func89, Tryz.ntmps89
    go_wp2
    go_loopw [5] (fun i wr => ∃ k : Nat, k ≤ xs.length ∧ i = .int .i64 k ∧ xs.take k = ys.take k ∧ Below w.heap.size w wr ∧ wr.heap = w.heap) (fun i _ => xs.length - (intOf i).toNat)
    case atStart => exact ⟨0, by omega, rfl, rfl, Below.refl _ _, rfl⟩
    case round =>
      obtain ⟨k, hk, rfl, ha, hb, hh⟩ := hrel
      have HA := Lib.hid ha
      have HH := Lib.hid hh
      clear ha hh
      by_cases hlt : k < xs.length
      · have HI1 : Ints wr lo hi A xs := HI.out.keep fun b _ _ => by rw [HH.out]
        have HJ1 : Ints wr lo' hi' A' ys := HJ.out.keep fun b _ _ => by rw [HH.out]
        obtain ⟨b, off, rfl, _, _, hc⟩ := HI1.at_ hlt
        obtain ⟨b', off', rfl, _, _, hc'⟩ := HJ1.at_ (show k < ys.length by have := HL.out; omega)
        generalize hx : xs.getD k 0 = x at hc
        generalize hy : ys.getD k 0 = y at hc'
        have HX := Lib.hid hx
        have HY := Lib.hid hy
        clear hx hy HI1 HJ1
        have hk0 : (0 : Int) ≤ (k : Int) := by omega
        have hk1 : (k : Int) < (xs.length : Int) := by omega
        by_cases hin : x = y
        · subst hin
          go_wp2
          go_quiet (fail)
          go_wp2
          go_roundw
          case rel => exact ⟨k + 1, by omega, by go_num, eq_take _ _ HL.out _ hlt HA.out (by rw [HX.out, HY.out]), below_drewN hb _, HH.out⟩
          case measure => simp [intOf]; omega
        · have hd : (x == y) = false := by simpa using hin
          have hd2 : (x != y) = true := by simpa using hin
          go_wp2
          go_quiet (fail)
          go_wp2
          go_ret
          exact ⟨ret_bool (by rw [decide_eq_false]; rintro rfl; exact hin (HX.out.symm.trans HY.out)), below_drewN hb _⟩
      · obtain rfl : k = xs.length := by omega
        go_wp2
        go_ret
        exact ⟨ret_bool (by rw [decide_eq_true]; have := HA.out; rwa [take_all, HL.out, take_all] at this), hb⟩
  · have hd : ((xs.length : Int) == (ys.length : Int)) = false := by simp; omega
    have hd2 : ((xs.length : Int) != (ys.length : Int)) = true := by simp; omega
    have H := Lib.hid hlen
    clear hlen
    go_enter Tryz.func89, Tryz.ntmps89
    go_wp2
    go_ret
    exact ⟨ret_bool (by rw [decide_eq_false]; rintro rfl; exact H.out rfl), Below.refl _ _⟩

set_option maxRecDepth 100000 in
set_option maxHeartbeats 1000000 in
theorem sEqual_any (lo hi lo' hi' : Nat) (A A' : Option Addr) (c c' : Nat) (xs ys : List Int) (hl : xs.length ≤ 140737488355328) (hl2 : ys.length ≤ 140737488355328) (w : World) (h : Ints w lo hi A xs) (h' : Ints w lo' hi' A' ys) :
    Calls Tryz.prog 110 #[.slice A xs.length c, .slice A' ys.length c'] w fun e w' => e = .returned (.bool (decide (xs = ys))) ∧ Below w.heap.size w w' := by
  by_cases hlen : xs.length = ys.length
  · have HI := Lib.hid h
    have HJ := Lib.hid h'
    have HL := Lib.hid hlen
    clear h h'
    have hl' : (xs.length : Int) ≤ 140737488355328 := by omega
    rw [← hlen]
    clear hlen
    go_enter Tryz.func110, Tryz.ntmps110
    go_wp2
    go_loopw [5, 13] (fun _ i wr => ∃ k : Nat, k ≤ xs.length ∧ i = .int .i64 k ∧ xs.take k = ys.take k ∧ Below w.heap.size w wr ∧ wr.heap = w.heap) (fun _ i _ => xs.length - (intOf i).toNat)
    case atStart => exact ⟨0, by omega, rfl, rfl, Below.refl _ _, rfl⟩
    case round =>
      obtain ⟨k, hk, rfl, ha, hb, hh⟩ := hrel
      have HA := Lib.hid ha
      have HH := Lib.hid hh
      clear ha hh
      by_cases hlt : k < xs.length
      · have HI1 : Ints wr lo hi A xs := HI.out.keep fun b _ _ => by rw [HH.out]
        have HJ1 : Ints wr lo' hi' A' ys := HJ.out.keep fun b _ _ => by rw [HH.out]
        obtain ⟨b, off, rfl, _, _, hc⟩ := HI1.at_ hlt
        obtain ⟨b', off', rfl, _, _, hc'⟩ := HJ1.at_ (show k < ys.length by have := HL.out; omega)
        generalize hx : xs.getD k 0 = x at hc
        generalize hy : ys.getD k 0 = y at hc'
        have HX := Lib.hid hx
        have HY := Lib.hid hy
        clear hx hy HI1 HJ1
        have hk0 : (0 : Int) ≤ (k : Int) := by omega
        have hk1 : (k : Int) < (xs.length : Int) := by omega
        by_cases hin : x = y
        · subst hin
          go_wp2
          go_quiet (fail)
          go_wp2
          go_roundw
          case rel => exact ⟨k + 1, by omega, by go_num, eq_take _ _ HL.out _ hlt HA.out (by rw [HX.out, HY.out]), below_drewN hb _, HH.out⟩
          case measure => simp [intOf]; omega
        · have hd : (x == y) = false := by simpa using hin
          have hd2 : (x != y) = true := by simpa using hin
          go_wp2
          go_quiet (fail)
          go_wp2
          go_ret
          exact ⟨ret_bool (by rw [decide_eq_false]; rintro rfl; exact hin (HX.out.symm.trans HY.out)), below_drewN hb _⟩
      · obtain rfl : k = xs.length := by omega
        go_wp2
        go_ret
        exact ⟨ret_bool (by rw [decide_eq_true]; have := HA.out; rwa [take_all, HL.out, take_all] at this), hb⟩
  · have hd : ((xs.length : Int) == (ys.length : Int)) = false := by simp; omega
    have hd2 : ((xs.length : Int) != (ys.length : Int)) = true := by simp; omega
    have H := Lib.hid hlen
    clear hlen
    go_enter Tryz.func110, Tryz.ntmps110
    go_wp2
    go_ret
    exact ⟨ret_bool (by rw [decide_eq_false]; rintro rfl; exact H.out rfl), Below.refl _ _⟩

end Go.Proofs.YtighalbnpgmdfaaGreat

namespace Go.Proofs.YtighalbnpgmdfaaGreat
open Go.ChangeShapes Go.WideShapes Go.ChangeAt Go.RowKit Go.Sort
set_option linter.unusedVariables false
set_option linter.unusedSimpArgs false

def sameT (us bs : TL) : Bool := decide (us = bs)
theorem tl_take (us bs : TL) (hl : us.length = bs.length) (k : Nat) (hk : k < us.length) (h : us.take k = bs.take k) {xs ys : List Int} (ha : us.getD k [] = xs) (hb : bs.getD k [] = ys) (hs : xs = ys) : us.take (k + 1) = bs.take (k + 1) := by
  rw [List.take_succ_eq_append_getElem hk, List.take_succ_eq_append_getElem (by omega), h]
  have h1 : us[k] = us.getD k [] := by simp [List.getD_eq_getElem?_getD, hk]
  have h2 : bs[k]'(by omega) = bs.getD k [] := by simp [List.getD_eq_getElem?_getD, show k < bs.length by omega]
  rw [h1, h2, ha, hb, hs]
theorem tl_differ (us bs : TL) (k : Nat) {xs ys : List Int} (ha : us.getD k [] = xs) (hb : bs.getD k [] = ys) (hs : ¬ xs = ys) : sameT us bs = false := by
  unfold sameT
  rw [decide_eq_false]
  rintro rfl
  exact hs (ha.symm.trans hb)

end Go.Proofs.YtighalbnpgmdfaaGreat
