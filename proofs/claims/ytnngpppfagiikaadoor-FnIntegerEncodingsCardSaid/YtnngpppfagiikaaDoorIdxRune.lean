/- What strings.IndexRune answers over the sixteen hex digits. Conditions: none beyond each theorem's own. -/
import Derived.Test.YtnngpppfagiikaaDoorHexMath
import Derived.Test.YtnngpppfagiikaaDoorShelf
import Derived.Deep.QuietTactic
import Derived.BigQuiet
import Derived.Laws.Runes
import Derived.Laws.RangeAny
import Derived.WalkMore
namespace Go.Proofs.YtnngpppfagiikaaDoor
open Go.ChangeShapes Go.WideShapes Go.ChangeAt Go.RowKit
set_option linter.unusedVariables false

def hexDig : ByteArray := ⟨#[48, 49, 50, 51, 52, 53, 54, 55, 56, 57, 97, 98, 99, 100, 101, 102]⟩
theorem idx_low : ∀ r : Nat, r < 128 → Lib.indexByte hexDig.data.toList r.toUInt8 = hv r := by decide +kernel
theorem hv_high {r : Nat} (h : 128 ≤ r) : hv r = -1 := by unfold hv; rw [if_neg (by omega), if_neg (by omega)]

theorem quiet_add_same {P : Program} {f : FuncId} {args : Array Value} {w : World} {a n : Nat} {v : Value}
    (h : Calls P f args (w.drewN (a + n)) fun e w' => e = .returned v ∧ w' = w.drewN (a + n)) :
    Calls P f args (w.drewN (a + n)) fun e w'' => e = .returned v ∧ ∃ m, w'' = w.drewN (a + m) :=
  h.mono fun _ _ ⟨he, hm⟩ => ⟨he, n, hm⟩
theorem below_drewN {B : Nat} {a w : World} (h : Below B a w) (n : Nat) : Below B a (w.drewN n) := ⟨h.os, h.tape, h.output, h.size, h.block⟩
theorem idx_none : ∀ (l : List UInt8) (c : UInt8), (∀ b ∈ l, b ≠ c) → Lib.indexByte l c = -1
  | [], c, _ => rfl
  | b :: l, c, h => by
    have h1 : (b == c) = false := by simp [h b (by simp)]
    have ih := idx_none l c fun x hx => h x (by simp [hx])
    rw [Lib.indexByte, h1, ih]
    rfl
theorem IndexRune_low (r : Nat) (h : r < 128) (w : World) :
    Calls Tryd.prog 27 #[.string hexDig, .int .i32 r] w fun e w' => e = .returned (.int .i64 (hv r)) ∧ w = w' := by
  refine (Tryd.strings_IndexRune_ascii hexDig r w (by omega) (by omega)).mono ?_
  rintro e w' ⟨rfl, rfl⟩
  exact ⟨ret_int (by rw [Int.toNat_natCast]; exact idx_low r h), rfl⟩

set_option maxRecDepth 100000 in
set_option maxHeartbeats 400000 in
theorem IndexRune_err (s : ByteArray) (hs : ∀ k, bn s k < 128) (hm : s.size ≤ 1048576) (w : World) :
    Calls Tryd.prog 27 #[.string s, .int .i32 65533] w fun e w' => e = .returned (.int .i64 (-1)) ∧ Below w.heap.size w w' := by
  have HS := Lib.hid hs
  clear hs
  have hm' : (s.size : Int) ≤ 1048576 := by omega
  go_enter Tryd.func27, Tryd.ntmps27
  go_wp2
  go_loopw [5] (fun _ wr => ∃ pos : Nat, pos ≤ s.size ∧ wr = w.iter s pos) (fun _ wr => s.size - wr.iterPos w.heap.size)
  case atStart => exact ⟨0, by omega, rfl⟩
  case round =>
    obtain ⟨pos, hp, rfl⟩ := hrel
    by_cases hlt : pos < s.size
    · have hb := HS.out pos
      have hg := get_bn s pos hlt
      have hnx := fun ty => run_next_ascii (P := Tryd.prog) w s pos ty hlt (by rw [hg]; exact hb)
      rw [hg] at hnx
      clear hg
      have hne : ¬ ((bn s pos : Nat) : Int) = 65533 := by omega
      go_wp2
      go_roundw
      case rel => exact ⟨pos + 1, by omega, rfl⟩
      case measure => simp; omega
    · have hnx := fun ty => run_next_end (P := Tryd.prog) w s pos ty hlt
      go_wp2
      go_ret
      exact ⟨rfl, (Below.refl _ _).alloc (Nat.le_refl _) _⟩

set_option maxRecDepth 100000 in
set_option maxHeartbeats 400000 in
theorem IndexRune_inv (s : ByteArray) (r : Int) (h : 128 ≤ r) (h2 : r ≤ 2147483647) (hne : ¬ r = 65533) (hv : Lib.validRune r = false) (w : World) :
    Calls Tryd.prog 27 #[.string s, .int .i32 r] w fun e w' => e = .returned (.int .i64 (-1)) ∧ Below w.heap.size w w' := by
  go_enter Tryd.func27, Tryd.ntmps27
  go_wp2_with (go_at_call 33; refine (Tryd.utf8_ValidRune _ _).mono ?_; rintro e w' ⟨rfl, rfl⟩)
  go_ret
  exact ⟨rfl, Below.refl _ _⟩

set_option maxRecDepth 100000 in
set_option maxHeartbeats 400000 in
theorem IndexRune_val (s : ByteArray) (hs : ∀ k, bn s k < 128) (hm : s.size ≤ 1048576) (h4 : 5 ≤ s.size) (r : Int) (h : 128 ≤ r) (h2 : r ≤ 2147483647) (hne : ¬ r = 65533) (hv : Lib.validRune r = true) (w : World) :
    Calls Tryd.prog 27 #[.string s, .int .i32 r] w fun e w' => e = .returned (.int .i64 (-1)) ∧ Below w.heap.size w w' := by
  have hvv : Utf8.valid r = true := by rw [validRune_eq]; exact hv
  have f := encode_facts r hvv h
  obtain ⟨rs, hrs⟩ : ∃ rs, Utf8.encode r = rs := ⟨_, rfl⟩
  rw [hrs] at f
  obtain ⟨f1, f2, f3⟩ := f
  obtain ⟨q, hq⟩ : ∃ q, rs.size = q + 1 := ⟨rs.size - 1, by omega⟩
  have hl : 128 ≤ bn rs q := by
    have := f3 (by omega)
    rw [get_bn] at this
    simpa [hq] using this
  have hl2 := bn_le rs q
  clear f3 hvv
  have hg := get_bn s
  have hgr := get_bn rs
  have e1 := hs q
  have hix : Lib.indexByte (List.take (s.size - (q + 1)) (List.drop (q + 1) s.data.toList)) (UInt8.ofNat (bn rs q)) < 0 := by
    rw [idx_none _ _ fun b hb hbc => ?_]
    · omega
    · have hm1 := List.mem_of_mem_drop (List.mem_of_mem_take hb)
      obtain ⟨j, hj, rfl⟩ := List.getElem_of_mem hm1
      have hj' : j < s.size := by simpa using hj
      have h5 := hs j
      rw [← get_bn s j hj'] at h5
      have h6 : (s.data.toList[j]).toNat = bn rs q := by rw [hbc]; simp; omega
      have h7 : (s.data.toList[j]).toNat = (s[j]'hj').toNat := rfl
      omega
  have HS := Lib.hid hs
  clear hs
  have hne2 : ¬ bn s q = bn rs q := by omega
  have hq1 : q + 1 < s.size := by omega
  have hq2 : q ≤ 3 := by omega
  go_enter Tryd.func27, Tryd.ntmps27
  go_wp2_with (go_at_call 33; refine (Tryd.utf8_ValidRune _ _).mono ?_; rintro e w' ⟨rfl, rfl⟩)
  go_step3
  go_wp2
  refine wp_loop_rounds 1 ?_
  rw [rounds_succ]
  go_wp2
  go_step3
  go_wp2
  go_quiet (fail)
  go_wp2
  go_quiet ((go_at_call 32; exact quiet_add_same (Tryd.strings_IndexByte _ _ _)))
  go_wp2
  simp only [Exit.inBlock, Exit.then, Exit.noGoto_ret]
  go_ret
  exact ⟨rfl, below_drewN (Below.refl _ _) _⟩
end Go.Proofs.YtnngpppfagiikaaDoor
