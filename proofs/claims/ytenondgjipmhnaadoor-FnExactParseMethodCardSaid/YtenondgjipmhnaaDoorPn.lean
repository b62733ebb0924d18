/- What the program's parseNumbers answers. Conditions: none beyond each theorem's own. -/
import Derived.Test.YtenondgjipmhnaaDoorRow
import Derived.Test.YtenondgjipmhnaaDoorParseI
namespace Go.Proofs.YtenondgjipmhnaaDoor
open Go.ChangeShapes Go.WideShapes Go.ChangeAt Go.RowKit Go.Sort
set_option linter.unusedVariables false
set_option linter.unusedSimpArgs false

/-- Are all words numerals? -/
def allN (ws : List ByteArray) : Prop := ∀ x ∈ ws, parB x = true
noncomputable def nums (ws : List ByteArray) : List Int := ws.map parN
def PnOut (w : World) (s : ByteArray) (e : Ending) (w' : World) : Prop :=
  ∃ A c ok q xs, e = .returned (.tuple #[.slice A xs.length c, .bool ok]) ∧ OwnV w' w.heap.size w'.heap.size (.slice A xs.length c) q xs ∧ Below w.heap.size w w' ∧ xs.length ≤ s.size + 1 ∧ (ok = true ↔ allN (wordsI s)) ∧ (ok = true → xs = nums (wordsI s))
theorem nums_take (ws : List ByteArray) {k : Nat} (hk : k < ws.length) {x : ByteArray} (hx : ws.getD k ⟨#[]⟩ = x) : (nums ws).take (k + 1) = (nums ws).take k ++ [parN x] := by
  have hk' : k < (nums ws).length := by simpa [nums] using hk
  rw [List.take_succ_eq_append_getElem hk']
  subst hx
  simp [nums, List.getD_eq_getElem?_getD, hk]
theorem ownV_nil (w : World) (lo hi : Nat) : OwnV w lo hi (.slice none 0 0) 0 [] := ⟨none, 0, rfl, Nat.le_refl _, by unfold maxLen; omega, fun h => by simp at h⟩

set_option maxRecDepth 100000 in
set_option maxHeartbeats 1000000 in
theorem parseList_int (s : ByteArray) (m : Int) (hs : s.size ≤ 1048576) (w : World) (hm : w.cell? ⟨0, 0, none⟩ = some (.int .i64 m)) (ht : Tab w) :
    Calls Tryd.prog 60 #[.string s, .func (.func 50) #[] #[]] w (PnOut w s) := by
  obtain ⟨i0, hi, hz0, hz1, hz2⟩ := info_parts int_info
  have HT := Lib.hid (Lib.tabBelow_of_tabIs ht)
  have hsp := Tryd.strings_Split s ⟨#[44]⟩ m w (by omega) hm (by decide)
  rw [← words_len] at hsp
  change Calls Tryd.prog _ _ _ fun e w' => e = .returned (.slice (some ⟨w.heap.size, 0, none⟩) (wordsI s).length (wordsI s).length) ∧ w' = w.alloc (.cells ((wordsI s).map Value.string).toArray 9) at hsp
  have WL := words_le s
  have WS := Lib.hid (fun x (h : x ∈ wordsI s) => words_size h)
  generalize hws : wordsI s = ws at hsp WL WS
  have HW := Lib.hid hws
  have SP := Lib.hid hsp
  have R0 := Lib.hid (show RS (w.alloc (.cells (ws.map Value.string).toArray 9)) w.heap.size ws from heap_alloc_new w _)
  have B0 := Lib.hid (below_alloc w (.cells (ws.map Value.string).toArray 9))
  have WL' : (ws.length : Int) ≤ 1048577 := by omega
  obtain ⟨w0, hw0⟩ : ∃ W, W = w.alloc (.cells (ws.map Value.string).toArray 9) := ⟨_, rfl⟩
  have Z0 : w0.heap.size = w.heap.size + 1 := by rw [hw0, al_size]
  rw [← hw0] at R0 B0 SP
  clear hsp hws hm ht hw0
  go_enter Tryd.func60, Tryd.ntmps60
  go_wp2_with (go_at_call 33; refine SP.out.mono ?_; rintro e w0 ⟨rfl, rfl⟩)
  go_loopw [6, 8, 9, 10, 14] (fun v _ _ _ i wr => ∃ (k : Nat) (A : Option Addr) (c : Nat), k ≤ ws.length ∧ i = .int .i64 k ∧ v = .slice A k c ∧ wr.ownsRow (w.heap.size + 1) 3 1 (.slice A k c) k (((nums ws).take k).map (Value.int .i64)) ∧ Below (w.heap.size + 1) w0 wr ∧ w.heap.size + 1 ≤ wr.heap.size ∧ Hid (∀ x ∈ ws.take k, parB x = true)) (fun _ _ _ _ i _ => ws.length - (intOf i).toNat)
  case atStart => exact ⟨0, none, 0, by omega, rfl, rfl, ⟨by simp, .inl ⟨rfl, rfl⟩⟩, Below.refl _ _, by omega, Lib.hid (by simp)⟩
  case round =>
    obtain ⟨k, A, c, hk, rfl, rfl, hown, hb, hsz, hall⟩ := hrel
    have R1 : RS wr w.heap.size ws := (hb.block _ (by omega)).trans R0.out
    by_cases hlt : k < ws.length
    · have hc := R1.cell hlt
      generalize hx : ws.getD k ⟨#[]⟩ = x at hc
      have hxm : x ∈ ws := by subst hx; rw [List.getD_eq_getElem?_getD, List.getElem?_eq_getElem hlt]; exact List.getElem_mem _
      have hxs : x.size ≤ 1048576 := Nat.le_trans (WS.out x hxm) hs
      have NT := Lib.hid (nums_take ws hlt hx)
      have TK := Lib.hid (show ws.take (k + 1) = ws.take k ++ [x] by rw [List.take_succ_eq_append_getElem hlt]; subst hx; simp [List.getD_eq_getElem?_getD, hlt])
      have HM := Lib.hid hxm
      have XI := Lib.hid (impl_ParseInt x hxs wr (HT.out wr (B0.out.trans (hb.mono (by omega)))))
      have BB := Lib.hid hb
      clear hx hxm R1
      by_cases hp : parB x = true
      · rw [hp] at XI
        have HP := Lib.hid hp
        have HO := Lib.hid hown
        generalize parN x = n at XI NT
        clear hp hb hown
        go_wp2_with (first
          | (go_at_call 50; refine XI.out.mono ?_; rintro e u ⟨rfl, d⟩
             have hownu := ownsRow_step HO.out d
             have hbu : Below (w.heap.size + 1) w0 u := BB.out.trans (d.mono hsz)
             have hszu : w.heap.size + 1 ≤ u.heap.size := by have := d.size; omega
             clear d)
          | (at_builtin; refine wpList_push rfl _ _ _ 3 rfl i0 Tryd.underlying22 hi (.int .i64 0) 8 hz0 hz1 hz2 rfl (by omega) rfl rfl rfl hownu hbu hszu (by omega) ?_; intro v' w' hown' hb' hsz'; obtain ⟨A', c', rfl⟩ := ownsRow_form hown'))
        go_roundw
        case rel =>
          refine ⟨k + 1, A', c', by omega, by go_num, rfl, ?_, hb', by omega, Lib.hid (by rw [TK.out]; intro y hy; rcases List.mem_append.1 hy with hy | hy; exact hall.out y hy; simp at hy; subst hy; exact HP.out)⟩
          rw [NT.out, List.map_append]
          exact hown'
        case measure => simp [intOf]; omega
      · have hp' : parB x = false := by simpa using hp
        rw [hp'] at XI
        have HP := Lib.hid hp
        generalize parN x = n at XI
        clear hp hp' hb hown NT
        go_wp2_with (go_at_call 50; refine XI.out.mono ?_; rintro e u ⟨rfl, d⟩)
        go_ret2
        refine ⟨none, 0, false, 0, [], rfl, ownV_nil _ _ _, B0.out.trans ((BB.out.trans (d.mono hsz)).mono (by omega)), by simp, ?_, fun h => (by cases h)⟩
        rw [HW.out]
        exact ⟨fun h => (by cases h), fun h => absurd (h x HM.out) HP.out⟩
    · obtain rfl : k = ws.length := by omega
      have hnl : (nums ws).length = ws.length := by simp [nums]
      have hown2 : wr.ownsRow (w.heap.size + 1) 3 1 (.slice A ws.length c) ws.length ((nums ws).map (Value.int .i64)) := by have := hown; rw [List.take_of_length_le (by omega)] at this; exact this
      obtain ⟨q, hv⟩ := ownV_of_row hown2
      have HV := Lib.hid (show OwnV wr (w.heap.size + 1) wr.heap.size (.slice A (nums ws).length c) q (nums ws) by rw [hnl]; exact hv)
      have BB := Lib.hid hb
      have HA := Lib.hid hall
      have NL := Lib.hid hnl
      clear hown hown2 hv hb hnl R1
      go_wp2
      go_ret2
      refine ⟨A, c, true, q, nums ws, by rw [NL.out]; rfl, HV.out.mono (by omega) (Nat.le_refl _), B0.out.trans (BB.out.mono (by omega)), by rw [NL.out]; exact WL, ?_, fun _ => by rw [HW.out]⟩
      rw [HW.out]
      exact ⟨fun _ x hx => hall.out x (by rw [List.take_length]; exact hx), fun _ => rfl⟩
end Go.Proofs.YtenondgjipmhnaaDoor
