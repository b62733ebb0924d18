/- Rows of one-cell elements that grow by append, and texts in memory. Conditions: none beyond each theorem's own. Plain facts on bytes and numbers, and small laws on memory, that the walks of this seat use. Conditions: none beyond each theorem's own. What the two functions FormatInt answer. Conditions: none beyond each theorem's own. Which strings are numerals: plain facts. Conditions: none beyond each theorem's own. What the model's ParseInt answers. Conditions: none beyond each theorem's own. -/
import Derived.Test.YtfhlmindkogdoaaGreatDoorPq2
import Derived.Test.YtfhlmindkogdoaaGreatDoorShelf
import Derived.Lib.SplitLaws
import Derived.Lib.CutLaws
import Derived.Lib.IndexBytes
import Derived.Test.YtfhlmindkogdoaaGreatDoorPq1
import Derived.WalkKit
import Derived.ProofKit
import Derived.OpenShut
import Derived.ShutString
import Derived.Below
import Derived.Handy
import Derived.ChangeSame
import Derived.Laws.BytesArg
import Derived.WalkLawsBesides
import Derived.WalkSpells
import Derived.Lib.Hide
import Derived.OwnWalk
import Derived.Laws.OwnMore
import Derived.Maps.AppendAt
import Derived.Laws.AppendOwn
import Derived.Lib.AppendIntMem
import Derived.Lib.SmallJoins

namespace Go.Proofs.YtfhlmindkogdoaaGreatDoor
open Go.ChangeShapes Go.WideShapes Go.ChangeAt Go.RowKit Go.Sort
set_option linter.unusedVariables false
set_option linter.unusedSimpArgs false

/-- The words between the commas. -/
def wordsI (s : ByteArray) : List ByteArray := Lib.splitB ⟨#[44]⟩ 0 (Lib.countB s ⟨#[44]⟩) s
theorem words_len (s : ByteArray) : (wordsI s).length = Lib.countB s ⟨#[44]⟩ + 1 := Lib.splitB_all _ (by decide) 0 _ _ rfl
theorem words_le (s : ByteArray) : (wordsI s).length ≤ s.size + 1 := by
  rw [words_len]
  have := Lib.countB_le ⟨#[44]⟩ (by decide) s.size s (Nat.le_refl _)
  omega
theorem splitB_mem (sep : ByteArray) : ∀ (k : Nat) (s x : ByteArray), x ∈ Lib.splitB sep 0 k s → x.size ≤ s.size
  | 0, s, x, h => by
    rw [Lib.splitB_zero] at h
    simp at h
    subst h
    exact Nat.le_refl _
  | k + 1, s, x, h => by
    unfold Lib.splitB at h
    split at h
    · simp at h
      subst h
      exact Nat.le_refl _
    · rcases List.mem_cons.1 h with h | h
      · subst h
        rw [ByteArray.size_extract]; omega
      · have := splitB_mem sep k _ x h
        rw [ByteArray.size_extract] at this
        omega
theorem words_size {s x : ByteArray} (h : x ∈ wordsI s) : x.size ≤ s.size := splitB_mem _ _ _ _ h

/-- Texts at an address. -/
def RS (w : World) (g : Nat) (ws : List ByteArray) : Prop := w.heap[g]? = some (.cells (ws.map Value.string).toArray 9 (0, 0))
theorem RS.cell {w : World} {g : Nat} {ws : List ByteArray} (h : RS w g ws) {k : Nat} (hk : k < ws.length) : w.cell? ⟨g, k, none⟩ = some (.string (ws.getD k ⟨#[]⟩)) := by
  rw [cell_of_row w g k _ _ (0, 0) h]
  simp [List.getD_eq_getElem?_getD, hk]
end Go.Proofs.YtfhlmindkogdoaaGreatDoor

namespace Go.Proofs.YtfhlmindkogdoaaGreatDoor
open Go.ChangeShapes Go.WideShapes Go.ChangeAt Go.RowKit

/-- n / 256^k, kept whole. -/
def dq (n k : Nat) : Nat := n / 256 ^ k
theorem dq_le (n k : Nat) : dq n k ≤ n := Nat.div_le_self _ _
theorem dq_zero (n : Nat) : dq n 0 = n := by simp [dq]
theorem dq_succ (n k : Nat) : dq n (k + 1) = dq n k / 256 := by
  unfold dq; rw [Nat.pow_succ, Nat.div_div_eq_div_mul]
/-- The lowest i digits of N to the base 256, the highest first. -/
def be (N : Nat) : Nat → List UInt8
  | 0 => []
  | i + 1 => UInt8.ofNat (dq N i % 256) :: be N i
theorem be_length (N : Nat) : ∀ i, (be N i).length = i
  | 0 => rfl
  | i + 1 => by simp [be, be_length N i]
def fixedS (n wd : Nat) : ByteArray := ⟨(if dq n wd = 0 then be n wd else []).toArray⟩
/-- What EncodeFixed answers. -/
def fixedI (n wd : Int) : ByteArray := if 1 ≤ wd ∧ wd ≤ 7 ∧ 0 ≤ n then fixedS n.toNat wd.toNat else ⟨#[]⟩

theorem ba_append (a b : List UInt8) : (⟨a.toArray⟩ : ByteArray) ++ ⟨b.toArray⟩ = ⟨(a ++ b).toArray⟩ := by
  apply ByteArray.ext
  simp

/-- Byte k of a string as a number; 0 behind its end. -/
def bn (s : ByteArray) (k : Nat) : Nat := if h : k < s.size then (s[k]'h).toNat else 0
theorem get_bn (s : ByteArray) : ∀ (n : Nat) (h : n < s.size), (s[n]'h).toNat = bn s n := fun n h => by unfold bn; rw [dif_pos h]
theorem bn_le (s : ByteArray) (k : Nat) : bn s k ≤ 255 := by
  unfold bn; split
  · have := (s[k]).toNat_lt; omega
  · omega
/-- The first k bytes as a number to the base 256. -/
def decN (s : ByteArray) : Nat → Nat
  | 0 => 0
  | k + 1 => decN s k * 256 + bn s k
theorem decN_lt (s : ByteArray) : ∀ k, decN s k < 256 ^ k
  | 0 => by simp [decN]
  | k + 1 => by
    have h := decN_lt s k
    have hb := bn_le s k
    simp only [decN, Nat.pow_succ]
    omega
theorem decN_le (s : ByteArray) {k : Nat} (h : k ≤ 6) : decN s k ≤ 281474976710655 := by
  have h1 := decN_lt s k
  have h2 : 256 ^ k ≤ 256 ^ 6 := Nat.pow_le_pow_right (by omega) h
  simp only [Nat.reducePow] at h2
  omega
theorem ofInt_i64 (a : Nat) (ha : a < 9223372036854775808) : (BitVec.ofInt 64 (a : Int)).toNat = a := by
  rw [BitVec.ofInt_natCast, BitVec.toNat_ofNat]; exact Nat.mod_eq_of_lt (by omega)
theorem i64_or_nat (a b : Nat) (ha : a < 9223372036854775808) (hb : b < 9223372036854775808) : bits .or .i64 (a : Int) (b : Int) = ((a ||| b : Nat) : Int) := by
  have hx : a ||| b < 2 ^ 63 := Nat.or_lt_two_pow (by omega) (by omega)
  show IntKind.i64.wrap ((BitVec.ofInt 64 (a : Int) ||| BitVec.ofInt 64 (b : Int)).toNat : Int) = _
  rw [BitVec.toNat_or, ofInt_i64 a ha, ofInt_i64 b hb, IntKind.wrap_i64]
  omega
theorem or_low (a b i : Nat) (hb : b < 2 ^ i) : (a * 2 ^ i) ||| b = a * 2 ^ i + b := by
  have := Nat.two_pow_add_eq_or_of_lt (i := i) hb a
  rw [Nat.mul_comm, this]
theorem or_dec (a b : Nat) (ha : a ≤ 281474976710655) (hb : b ≤ 255) : bits .or .i64 ((a : Int) * 256) (b : Int) = ((a * 256 + b : Nat) : Int) := by
  have h := i64_or_nat (a * 256) b (by omega) (by omega)
  rw [show a * 256 = a * 2 ^ 8 from rfl, or_low a b 8 (by omega)] at h
  rw [show ((a : Int) * 256) = ((a * 2 ^ 8 : Nat) : Int) by omega, h]
theorem i64_rng {a : Int} (h : (Lit.int .i64 a).wf = true) : -9223372036854775808 ≤ a ∧ a ≤ 9223372036854775807 := by
  simpa [Lit.wf, IntKind.min, IntKind.max, IntKind.signed, IntKind.bits] using h
/-- The bytes of a varint. -/
def vb (n : Nat) : List UInt8 := if n < 128 then [UInt8.ofNat n] else UInt8.ofNat (n % 128 + 128) :: vb (n / 128)
theorem vb_small {n : Nat} (h : n < 128) : vb n = [UInt8.ofNat n] := by rw [vb, if_pos h]
theorem vb_big {n : Nat} (h : ¬ n < 128) : vb n = UInt8.ofNat (n % 128 + 128) :: vb (n / 128) := by rw [vb, if_neg h]
theorem vb_len : ∀ (k n : Nat), n < 128 ^ (k + 1) → (vb n).length ≤ k + 1
  | 0, n, h => by rw [vb_small (by simpa using h)]; simp
  | k + 1, n, h => by
    by_cases h1 : n < 128
    · rw [vb_small h1]; simp
    · rw [vb_big h1]
      have := vb_len k (n / 128) (by
        rw [Nat.pow_succ] at h
        exact Nat.div_lt_of_lt_mul (by omega))
      simp only [List.length_cons]
      omega
theorem vb_len7 {n : Nat} (h : n ≤ 562949953421311) : (vb n).length ≤ 7 := vb_len 6 n (Nat.lt_of_lt_of_le (show n < 562949953421312 by omega) (by decide))
/-- What EncodeVarint answers. -/
def varI (n : Int) : ByteArray := ⟨(if 0 ≤ n ∧ n ≤ 562949953421311 then vb n.toNat else []).toArray⟩
theorem oneC (x : Int) : ∀ u ∈ [Value.int .u8 x], u.oneCell' = true := by intro u hu; simp at hu; subst hu; rfl
/-- The hex digit of k, as a number. -/
def hx (k : Nat) : Nat := if k < 10 then 48 + k else 87 + k
theorem get_hx : ∀ (n : Nat) (h : n < (⟨#[48, 49, 50, 51, 52, 53, 54, 55, 56, 57, 97, 98, 99, 100, 101, 102]⟩ : ByteArray).size), ((⟨#[48, 49, 50, 51, 52, 53, 54, 55, 56, 57, 97, 98, 99, 100, 101, 102]⟩ : ByteArray)[n]'h).toNat = hx n := by
  intro n h
  have h16 : n < 16 := h
  rcases (by omega : n = 0 ∨ n = 1 ∨ n = 2 ∨ n = 3 ∨ n = 4 ∨ n = 5 ∨ n = 6 ∨ n = 7 ∨ n = 8 ∨ n = 9 ∨ n = 10 ∨ n = 11 ∨ n = 12 ∨ n = 13 ∨ n = 14 ∨ n = 15) with rfl | rfl | rfl | rfl | rfl | rfl | rfl | rfl | rfl | rfl | rfl | rfl | rfl | rfl | rfl | rfl <;> rfl
theorem hx_le {k : Nat} (h : k < 16) : hx k ≤ 102 := by unfold hx; split <;> omega
/-- The hex digits of the first k bytes, as numbers. -/
def hxs (s : ByteArray) : Nat → List Int
  | 0 => []
  | k + 1 => hxs s k ++ [(hx (bn s k / 16) : Int), (hx (bn s k % 16) : Int)]
theorem hxs_length (s : ByteArray) : ∀ k, (hxs s k).length = 2 * k
  | 0 => rfl
  | k + 1 => by simp [hxs, hxs_length s k]; omega
/-- What EncodeHex answers. -/
def hexS (s : ByteArray) : ByteArray := ⟨((hxs s s.size).map fun n => UInt8.ofNat n.toNat).toArray⟩
/-- string(b) for a block of the call's own that holds just these bytes. -/
theorem convL (P : Program) (src e dst : TypeId) (hs : P.underlying src = some (.slice e)) (he : P.underlying e = some (.int .u8)) (hd : P.underlying dst = some .string) (W : World) (xs : List Int) (n c : Nat) (hn : xs.length = n) :
    (convert src dst (.slice (some ⟨W.heap.size, 0, none⟩) n c)).run P (W.alloc (.cells (xs.map (Value.int .u8)).toArray e)) = .ok (.string ⟨(xs.map fun n => UInt8.ofNat n.toNat).toArray⟩) (W.alloc (.cells (xs.map (Value.int .u8)).toArray e)) :=
  run_convert_bytes_arg (P := P) (W.alloc (.cells (xs.map (Value.int .u8)).toArray e)) src e hs he W.heap.size 0 n c xs hn (fun i hi => by
    subst hn
    simp [List.getD_eq_getElem?_getD, hi]) dst hd
theorem conv1 (P : Program) (src e dst : TypeId) (hs : P.underlying src = some (.slice e)) (he : P.underlying e = some (.int .u8)) (hd : P.underlying dst = some .string) (W : World) (x : Int) :
    (convert src dst (.slice (some ⟨W.heap.size, 0, none⟩) 1 1)).run P (W.alloc (.cells #[.int .u8 x] e)) = .ok (.string ⟨#[UInt8.ofNat x.toNat]⟩) (W.alloc (.cells #[.int .u8 x] e)) :=
  convL P src e dst hs he hd W [x] 1 1 rfl

end Go.Proofs.YtfhlmindkogdoaaGreatDoor

namespace Go.Proofs.YtfhlmindkogdoaaGreatDoor
open Go.ChangeShapes Go.WideShapes Go.ChangeAt Go.RowKit
set_option linter.unusedVariables false

/-- What FormatInt answers. -/
def fmtI (n : Int) : ByteArray := ⟨(Lib.itoa n).toArray⟩
abbrev Tab (w : World) : Prop := Lib.TabIs Tryz.prog w "internal/strconv.uint64pow10" .u64 Lib.pow10Tab

set_option maxRecDepth 100000 in
theorem impl_FormatInt (n : Int) (h0 : -9223372036854775808 ≤ n) (h1 : n ≤ 9223372036854775807) (w : World) (ht : Tab w) :
    Calls Tryz.prog 95 #[.int .i64 n] w fun e w' => e = .returned (.string (fmtI n)) ∧ Below w.heap.size w w' := by
  have HT := Lib.hid ht
  clear ht
  go_enter Tryz.func95, Tryz.ntmps95
  go_wp2_with fail
  refine (Tryz.strconv_Itoa n h0 h1 _ HT.out).mono ?_
  rintro e w' ⟨rfl, k, os, rfl⟩
  go_wp2
  go_ret
  exact ⟨rfl, Lib.below_grow _ _ (Nat.le_refl _) _ _⟩

/-- The digits of u; none of 0. -/
def dd0 (u : Nat) : List UInt8 := if u = 0 then [] else Lib.decDigits u
theorem dd0_step {u : Nat} (h : u ≠ 0) : dd0 u = dd0 (u / 10) ++ [UInt8.ofNat (48 + u % 10)] := by
  unfold dd0
  rw [if_neg h]
  by_cases h1 : u < 10
  · rw [Lib.decDigits_one h1, if_pos (by omega), List.nil_append, show u % 10 = u by omega]
  · rw [Lib.decDigits, dif_neg h1, if_neg (by omega)]
theorem dd0_pos {u : Nat} (h : u ≠ 0) : dd0 u = Lib.decDigits u := by unfold dd0; rw [if_neg h]
theorem dd0_len : ∀ (k u : Nat), u < 10 ^ k → (dd0 u).length ≤ k
  | 0, u, h => by
    have : u = 0 := by simpa using h
    subst this
    simp [dd0]
  | k + 1, u, h => by
    by_cases h0 : u = 0
    · subst h0; simp [dd0]
    · rw [dd0_step h0, List.length_append]
      have := dd0_len k (u / 10) (by rw [Nat.pow_succ] at h; omega)
      simp only [List.length_cons, List.length_nil]
      omega
theorem dd0_len19 {u : Nat} (h : u ≤ 9223372036854775808) : (dd0 u).length ≤ 19 := dd0_len 19 u (Nat.lt_of_le_of_lt h (by decide))

theorem itoa_pos {u : Nat} (h : u ≠ 0) : fmtI (u : Int) = ⟨(dd0 u).toArray⟩ := by
  unfold fmtI
  rw [Lib.itoa, if_neg (by omega), Int.toNat_natCast, dd0_pos h]
theorem itoa_neg {u : Nat} (h : u ≠ 0) : fmtI (-(u : Int)) = ⟨(45 :: dd0 u).toArray⟩ := by
  unfold fmtI
  rw [Lib.itoa, if_pos (by omega), dd0_pos h, Int.natAbs_neg, Int.natAbs_natCast]

set_option maxRecDepth 100000 in
set_option maxHeartbeats 400000 in
theorem spec_FormatInt_pos (u : Nat) (h0 : u ≠ 0) (h1 : (u : Int) ≤ 9223372036854775807) (w : World) :
    Calls Tryz.prog 68 #[.int .i64 u] w fun e w' => e = .returned (.string (fmtI u)) ∧ Below w.heap.size w w' := by
  have hcv := fun (W : World) (x : Int) => conv1 Tryz.prog 22 5 9 Tryz.underlying22 Tryz.underlying5 Tryz.underlying9 W x
  have hne : ((u : Int) == 0) = false := by simp; omega
  have hlu := dd0_len19 (u := u) (by omega)
  go_enter Tryz.func68, Tryz.ntmps68
  go_wp2
  go_loopw [3, 0] (fun v c wr => ∃ (k : Nat) (l : List UInt8), v = .string ⟨l.toArray⟩ ∧ c = .int .i64 k ∧ k ≤ u ∧ Hid (dd0 k ++ l = dd0 u) ∧ Below w.heap.size w wr) (fun _ c _ => (intOf c).toNat)
  case atStart => exact ⟨u, [], rfl, rfl, Nat.le_refl _, Lib.hid (by simp), Below.refl _ _⟩
  case round =>
    obtain ⟨k, l, rfl, rfl, hk, hl, hb⟩ := hrel
    have hll : l.length ≤ 19 := by
      have := congrArg List.length hl.out
      rw [List.length_append] at this
      omega
    by_cases hk0 : k = 0
    · subst hk0
      go_wp2
      go_ret
      exact ⟨ret_str (by rw [itoa_pos h0, ← hl.out]; rfl), hb⟩
    · have hne2 : ((k : Int) != 0) = true := by simp; omega
      go_wp2
      go_roundw
      case rel => exact ⟨k / 10, (48 + UInt8.ofNat (k % 10)) :: l, by rw [show (#[48 + UInt8.ofNat (k % 10)] : Array UInt8) = [48 + UInt8.ofNat (k % 10)].toArray from rfl, ba_append]; rfl, by go_num, by omega, Lib.hid (by rw [← hl.out, dd0_step hk0, List.append_assoc, UInt8.ofNat_add]; rfl), hb.alloc hb.size _⟩
      case measure => simp [intOf]; omega

set_option maxRecDepth 100000 in
set_option maxHeartbeats 400000 in
theorem spec_FormatInt_neg (u : Nat) (h0 : u ≠ 0) (h1 : (u : Int) ≤ 9223372036854775808) (w : World) :
    Calls Tryz.prog 68 #[.int .i64 (-(u : Int))] w fun e w' => e = .returned (.string (fmtI (-(u : Int)))) ∧ Below w.heap.size w w' := by
  have hcv := fun (W : World) (x : Int) => conv1 Tryz.prog 22 5 9 Tryz.underlying22 Tryz.underlying5 Tryz.underlying9 W x
  have hne : ((-(u : Int)) == 0) = false := by simp; omega
  have hlt0 : -(u : Int) < 0 := by omega
  have hlu := dd0_len19 (u := u) (by omega)
  go_enter Tryz.func68, Tryz.ntmps68
  go_wp2
  go_loopw [3, 0, 5] (fun v c _ wr => ∃ (k : Nat) (l : List UInt8), v = .string ⟨l.toArray⟩ ∧ c = .int .i64 (-(k : Int)) ∧ k ≤ u ∧ Hid (dd0 k ++ l = dd0 u) ∧ Below w.heap.size w wr) (fun _ c _ _ => (intOf c).natAbs)
  case atStart => exact ⟨u, [], rfl, rfl, Nat.le_refl _, Lib.hid (by simp), Below.refl _ _⟩
  case round =>
    obtain ⟨k, l, rfl, rfl, hk, hl, hb⟩ := hrel
    have hll : l.length ≤ 19 := by
      have := congrArg List.length hl.out
      rw [List.length_append] at this
      omega
    by_cases hk0 : k = 0
    · subst hk0
      go_wp2
      go_ret
      exact ⟨ret_str (by rw [itoa_neg h0, ← hl.out]; rfl), hb⟩
    · have hne2 : ((-(k : Int)) != 0) = true := by simp; omega
      have e1 : (-(k : Int)).tmod 10 = -((k : Int) % 10) := by rw [Int.neg_tmod, Int.tmod_eq_emod_of_nonneg (by omega)]
      have e2 : (-(k : Int)).tdiv 10 = -((k : Int) / 10) := by rw [Int.neg_tdiv, Int.tdiv_eq_ediv_of_nonneg (by omega)]
      by_cases hd : k % 10 = 0
      · have hd1 : ¬ -((k : Int) % 10) < 0 := by omega
        go_wp2
        go_roundw
        case rel => exact ⟨k / 10, (48 + UInt8.ofNat (k % 10)) :: l, by rw [show (48 + -((k : Int) % 10)).toNat = 48 + k % 10 by omega, UInt8.ofNat_add, show (#[UInt8.ofNat 48 + UInt8.ofNat (k % 10)] : Array UInt8) = [48 + UInt8.ofNat (k % 10)].toArray from rfl, ba_append]; rfl, by go_num, by omega, Lib.hid (by rw [← hl.out, dd0_step hk0, List.append_assoc, UInt8.ofNat_add]; rfl), hb.alloc hb.size _⟩
        case measure => simp [intOf]; omega
      · have hd1 : -((k : Int) % 10) < 0 := by omega
        go_wp2
        go_roundw
        case rel => exact ⟨k / 10, (48 + UInt8.ofNat (k % 10)) :: l, by rw [show (#[48 + UInt8.ofNat (k % 10)] : Array UInt8) = [48 + UInt8.ofNat (k % 10)].toArray from rfl, ba_append]; rfl, by go_num, by omega, Lib.hid (by rw [← hl.out, dd0_step hk0, List.append_assoc, UInt8.ofNat_add]; rfl), hb.alloc hb.size _⟩
        case measure => simp [intOf]; omega

set_option maxRecDepth 100000 in
theorem spec_FormatInt_zero (w : World) :
    Calls Tryz.prog 68 #[.int .i64 0] w fun e w' => e = .returned (.string (fmtI 0)) ∧ Below w.heap.size w w' := by
  go_enter Tryz.func68, Tryz.ntmps68
  go_wp2
  go_ret
  exact ⟨ret_str (by unfold fmtI; rw [Lib.itoa, if_neg (by omega)]; rw [show Int.toNat 0 = 0 from rfl, Lib.decDigits_one (by omega)]; rfl), Below.refl _ _⟩

theorem spec_FormatInt (n : Int) (h0 : -9223372036854775808 ≤ n) (h1 : n ≤ 9223372036854775807) (w : World) :
    Calls Tryz.prog 68 #[.int .i64 n] w fun e w' => e = .returned (.string (fmtI n)) ∧ Below w.heap.size w w' := by
  by_cases hz : n = 0
  · subst hz; exact spec_FormatInt_zero w
  · by_cases hp : 0 ≤ n
    · obtain ⟨u, rfl⟩ := Int.eq_ofNat_of_zero_le hp
      exact spec_FormatInt_pos u (by omega) h1 w
    · obtain ⟨u, hu⟩ := Int.eq_ofNat_of_zero_le (show 0 ≤ -n by omega)
      obtain rfl : n = -(u : Int) := by omega
      exact spec_FormatInt_neg u (by omega) (by omega) w
end Go.Proofs.YtfhlmindkogdoaaGreatDoor

namespace Go.Proofs.YtfhlmindkogdoaaGreatDoor
open Go.RowKit
set_option linter.unusedVariables false

def isD (b : Nat) : Prop := 48 ≤ b ∧ b ≤ 57
instance (b : Nat) : Decidable (isD b) := by unfold isD; infer_instance
/-- The number of the digits among the first i bytes. -/
def pn (s : ByteArray) : Nat → Nat
  | 0 => 0
  | i + 1 => if isD (bn s i) then pn s i * 10 + (bn s i - 48) else pn s i
def pk (s : ByteArray) : Nat → Nat
  | 0 => 0
  | i + 1 => if isD (bn s i) then pk s i + 1 else pk s i
theorem pn_lt (s : ByteArray) : ∀ i, pn s i < 10 ^ i
  | 0 => by simp [pn]
  | i + 1 => by
    have h := pn_lt s i
    unfold pn
    split
    · rename_i hd; unfold isD at hd; rw [Nat.pow_succ]; omega
    · rw [Nat.pow_succ]; omega
theorem pn_le (s : ByteArray) {i : Nat} (h : i ≤ 11) : pn s i ≤ 99999999999 := by
  have h1 := pn_lt s i
  have h2 : 10 ^ i ≤ 10 ^ 11 := Nat.pow_le_pow_right (by omega) h
  have h3 : 10 ^ 11 = 100000000000 := by decide
  omega
theorem pk_le (s : ByteArray) : ∀ i, pk s i ≤ i
  | 0 => by simp [pk]
  | i + 1 => by have := pk_le s i; unfold pk; split <;> omega
theorem pk_all (s : ByteArray) : ∀ i, (∀ j, j < i → isD (bn s j)) → pk s i = i
  | 0, _ => rfl
  | i + 1, h => by unfold pk; rw [if_pos (h i (by omega)), pk_all s i fun j hj => h j (by omega)]
theorem pn_succ (s : ByteArray) (i : Nat) : pn s (i + 1) = if isD (bn s i) then pn s i * 10 + (bn s i - 48) else pn s i := rfl
theorem pk_succ (s : ByteArray) (i : Nat) : pk s (i + 1) = if isD (bn s i) then pk s i + 1 else pk s i := rfl
theorem shift_pn {s t : ByteArray} (h0 : ¬ isD (bn s 0)) : ∀ i, (∀ j, j < i → bn s (j + 1) = bn t j) → pn s (i + 1) = pn t i ∧ pk s (i + 1) = pk t i
  | 0, _ => by simp [pn, pk, h0]
  | i + 1, h => by
    have ih := shift_pn h0 i fun j hj => h j (by omega)
    have e := h i (by omega)
    rw [pn_succ s (i + 1), pn_succ t i, pk_succ s (i + 1), pk_succ t i, e, ih.1, ih.2]
    exact ⟨rfl, rfl⟩
def isNeg (s : ByteArray) : Prop := 0 < s.size ∧ bn s 0 = 45
instance (s : ByteArray) : Decidable (isNeg s) := by unfold isNeg; infer_instance
/-- The number that ParseInt holds against the text. -/
def pN (s : ByteArray) : Int := if isNeg s then -(pn s (min s.size 11) : Int) else (pn s (min s.size 11) : Int)
theorem pN_rng (s : ByteArray) : -9223372036854775808 ≤ pN s ∧ pN s ≤ 9223372036854775807 := by
  have := pn_le s (show min s.size 11 ≤ 11 by omega)
  unfold pN; split <;> omega
def okP (s : ByteArray) : Prop := pk s (min s.size 11) ≤ 9 ∧ s.size ≤ 10 ∧ fmtI (pN s) = s
noncomputable instance (s : ByteArray) : Decidable (okP s) := Classical.propDecidable _
noncomputable def parB (s : ByteArray) : Bool := decide (okP s)
noncomputable def parN (s : ByteArray) : Int := if okP s then pN s else 0
theorem par_no {s : ByteArray} (h : ¬ okP s) : parB s = false ∧ parN s = 0 := ⟨decide_eq_false h, if_neg h⟩
theorem par_yes {s : ByteArray} (h : okP s) : parB s = true ∧ parN s = pN s := ⟨decide_eq_true h, if_pos h⟩

theorem dd_digits : ∀ (f u : Nat), u < f → ∀ b ∈ Lib.decDigits u, isD b.toNat
  | 0, u, h => by omega
  | f + 1, u, h => by
    intro b hb
    by_cases h1 : u < 10
    · rw [Lib.decDigits_one h1] at hb
      simp at hb
      subst hb
      unfold isD
      simp
      omega
    · rw [Lib.decDigits, dif_neg h1, List.mem_append] at hb
      rcases hb with hb | hb
      · exact dd_digits f (u / 10) (by omega) b hb
      · simp at hb
        subst hb
        unfold isD
        simp
        omega
theorem itoa_shape (n : Int) : (∃ l, Lib.itoa n = 45 :: l ∧ ∀ b ∈ l, isD b.toNat) ∨ (∀ b ∈ Lib.itoa n, isD b.toNat) := by
  unfold Lib.itoa
  split
  · exact .inl ⟨_, rfl, dd_digits _ _ (Nat.lt_succ_self _)⟩
  · exact .inr (dd_digits _ _ (Nat.lt_succ_self _))
theorem bn_list {s : ByteArray} {j : Nat} (h : j < s.size) : ∃ b, s.data.toList[j]? = some b ∧ b.toNat = bn s j := by
  refine ⟨s[j]'h, ?_, by rw [get_bn]⟩
  have : j < s.data.toList.length := by simp only [Array.length_toList]; exact h
  rw [List.getElem?_eq_getElem this]
  rfl
/-- What a numeral looks like. -/
theorem shape {s : ByteArray} {n : Int} (e : fmtI n = s) {j : Nat} (hj : j < s.size) : (j = 0 ∧ bn s 0 = 45) ∨ isD (bn s j) := by
  obtain ⟨b, hb, hbn⟩ := bn_list hj
  have el : s.data.toList = Lib.itoa n := by rw [← e]; rfl
  rw [el] at hb
  rcases itoa_shape n with ⟨l, h1, h2⟩ | h
  · rw [h1] at hb
    cases j with
    | zero =>
      left
      simp at hb
      subst hb
      exact ⟨rfl, hbn.symm⟩
    | succ j =>
      right
      simp only [List.getElem?_cons_succ] at hb
      rw [← hbn]
      exact h2 b (List.mem_of_getElem? hb)
  · right
    rw [← hbn]
    exact h b (List.mem_of_getElem? hb)

/-- s without its sign. -/
structure Cut (s t : ByteArray) (d : Nat) : Prop where
  size : s.size = t.size + d
  le : d ≤ 1
  byte : ∀ j, j < t.size → bn s (j + d) = bn t j
  neg : d = 1 → bn s 0 = 45
  pos : d = 0 → ¬ isNeg s
theorem Cut.bad {s t : ByteArray} {d : Nat} (c : Cut s t d) {j : Nat} (hj : j < t.size) (h : ¬ isD (bn t j)) : ¬ okP s := by
  intro ok
  rw [← c.byte j hj] at h
  rcases shape ok.2.2 (show j + d < s.size by have := c.size; omega) with ⟨h1, h2⟩ | h1
  · obtain rfl : d = 0 := by omega
    exact c.pos rfl ⟨by have := c.size; omega, h2⟩
  · exact h h1
theorem Cut.long {s t : ByteArray} {d : Nat} (c : Cut s t d) (h : 9 < t.size) : ¬ okP s := by
  intro ok
  have hs := c.size
  have h10 := ok.2.1
  have hd := c.le
  obtain rfl : d = 0 := by omega
  have hall : ∀ j, j < s.size → isD (bn s j) := fun j hj => by
    rcases shape ok.2.2 hj with ⟨h1, h2⟩ | h1
    · exact absurd ⟨by omega, h2⟩ (c.pos rfl)
    · exact h1
  have h1 := ok.1
  rw [show min s.size 11 = s.size by omega, pk_all s _ hall] at h1
  omega
theorem Cut.num {s t : ByteArray} {d : Nat} (c : Cut s t d) (h : t.size ≤ 9) (hall : ∀ j, j < t.size → isD (bn t j)) :
    pk s (min s.size 11) ≤ 9 ∧ s.size ≤ 10 ∧ pN s = if d = 1 then -(pn t t.size : Int) else (pn t t.size : Int) := by
  have hs := c.size
  have hd := c.le
  by_cases e : d = 1
  · subst e
    have h0 : ¬ isD (bn s 0) := by rw [c.neg rfl]; unfold isD; omega
    have sh := shift_pn (s := s) (t := t) h0 t.size fun j hj => c.byte j hj
    have hn : isNeg s := ⟨by omega, c.neg rfl⟩
    rw [show min s.size 11 = t.size + 1 by omega, pN, if_pos hn, show min s.size 11 = t.size + 1 by omega, sh.1, sh.2, if_pos rfl, pk_all t _ hall]
    exact ⟨h, by omega, rfl⟩
  · obtain rfl : d = 0 := by omega
    have hall' : ∀ j, j < s.size → isD (bn s j) := fun j hj => by
      have := c.byte j (by omega)
      rw [Nat.add_zero] at this
      rw [this]; exact hall j (by omega)
    have same : ∀ i, i ≤ t.size → pn s i = pn t i := by
      intro i
      induction i with
      | zero => intro _; rfl
      | succ i ih =>
        intro hi
        have := c.byte i (by omega)
        rw [Nat.add_zero] at this
        rw [pn, pn, this, ih (by omega)]
    rw [show min s.size 11 = s.size by omega, pN, if_neg (c.pos rfl), show min s.size 11 = s.size by omega, if_neg (by omega), pk_all s _ hall', hs, Nat.add_zero, same _ (Nat.le_refl _)]
    exact ⟨by omega, by omega, rfl⟩
theorem bn_eq (s : ByteArray) (j : Nat) : bn s j = ((s.data.toList[j]?).map UInt8.toNat).getD 0 := by
  by_cases h : j < s.size
  · obtain ⟨b, hb, e⟩ := bn_list h
    rw [hb, ← e]; rfl
  · unfold bn
    rw [dif_neg h]
    have : s.data.toList.length ≤ j := by simp only [Array.length_toList]; show s.size ≤ j; omega
    rw [List.getElem?_eq_none this]; rfl
theorem size_eq' (s : ByteArray) : s.size = s.data.toList.length := by simp only [Array.length_toList]; rfl
/-- The trimmed text. -/
theorem cut_of (s : ByteArray) : ∃ (t : ByteArray) (d : Nat), (⟨(Lib.trimPrefix s.data.toList (⟨#[45]⟩ : ByteArray).data.toList).toArray⟩ : ByteArray) = t ∧ Cut s t d := by
  have hsz := size_eq' s
  have hb0 := bn_eq s 0
  rcases hl : s.data.toList with _ | ⟨b, l⟩
  · refine ⟨s, 0, ?_, ⟨by omega, by omega, fun j _ => rfl, fun h => by omega, fun _ h => ?_⟩⟩
    · apply ByteArray.ext; apply Array.toList_inj.1
      rw [hl]; rfl
    · have h1 : s.size = 0 := by rw [hsz, hl]; rfl
      have := h.1
      omega
  · rw [hl] at hsz hb0
    by_cases hb : b = 45
    · subst hb
      refine ⟨⟨l.toArray⟩, 1, ?_, ⟨by rw [size_eq' ⟨l.toArray⟩, hsz]; simp, by omega, fun j _ => ?_, fun _ => hb0, fun h => by omega⟩⟩
      · apply ByteArray.ext; apply Array.toList_inj.1; rfl
      · rw [bn_eq s, bn_eq ⟨l.toArray⟩, hl]; simp
    · refine ⟨s, 0, ?_, ⟨by omega, by omega, fun j _ => rfl, fun h => by omega, fun _ h => ?_⟩⟩
      · apply ByteArray.ext; apply Array.toList_inj.1
        rw [hl]
        have : Lib.hasPrefix (b :: l) [45] = false := by
          unfold Lib.hasPrefix
          have hb' : ((45 : UInt8) == b) = false := by simp; exact fun e => hb e.symm
          simp [List.isPrefixOf, hb']
        show Lib.trimPrefix (b :: l) [45] = b :: l
        unfold Lib.trimPrefix
        rw [this]; rfl
      · have h2 := h.2
        rw [hb0] at h2
        apply hb
        apply UInt8.toNat_inj.1
        simpa using h2
end Go.Proofs.YtfhlmindkogdoaaGreatDoor

namespace Go.Proofs.YtfhlmindkogdoaaGreatDoor
open Go.ChangeShapes Go.WideShapes Go.ChangeAt Go.RowKit
set_option linter.unusedVariables false

theorem ret_ib {a b : Int} {p q : Bool} (h : a = b) (k : p = q) : Ending.returned (.tuple #[.int .i64 a, .bool p]) = .returned (.tuple #[.int .i64 b, .bool q]) := by rw [h, k]

set_option maxRecDepth 100000 in
set_option maxHeartbeats 400000 in
theorem spec_ParseInt (s : ByteArray) (hm : s.size ≤ 1048576) (w : World) :
    Calls Tryz.prog 107 #[.string s] w fun e w' => e = .returned (.tuple #[.int .i64 (parN s), .bool (parB s)]) ∧ Below w.heap.size w w' := by
  have hm' : (s.size : Int) ≤ 1048576 := by omega
  have hg := get_bn s
  go_enter Tryz.func107, Tryz.ntmps107
  go_wp2
  go_loop [4, 5, 6] (fun n k i => ∃ j : Nat, j ≤ min s.size 11 ∧ i = .int .i64 j ∧ n = .int .i64 (pn s j) ∧ k = .int .i64 (pk s j)) (fun _ _ i => 11 - (intOf i).toNat)
  case atStart => exact ⟨0, by omega, rfl, rfl, rfl⟩
  case round =>
    obtain ⟨j, hj, rfl, rfl, rfl⟩ := hrel
    have hb := bn_le s j
    have hn := pn_le s (show j ≤ 11 by omega)
    have hn' : ((pn s j : Nat) : Int) ≤ 99999999999 := by omega
    have hk := pk_le s j
    clear hn
    by_cases hlt : j < s.size
    · by_cases h11 : j < 11
      · have P := Lib.hid (pn_succ s j)
        have K := Lib.hid (pk_succ s j)
        by_cases d1 : 48 ≤ bn s j
        · by_cases d2 : bn s j ≤ 57
          · have D : Hid (isD (bn s j)) := Lib.hid ⟨d1, d2⟩
            go_wp2
            go_round
            case rel => exact ⟨j + 1, by omega, by go_num, by rw [P.out, if_pos D.out]; go_num, by rw [K.out, if_pos D.out]; go_num⟩
            case measure => simp [intOf]; omega
          · have D : Hid (¬ isD (bn s j)) := Lib.hid (by unfold isD; omega)
            go_wp2
            go_round
            case rel => exact ⟨j + 1, by omega, by go_num, by rw [P.out, if_neg D.out], by rw [K.out, if_neg D.out]⟩
            case measure => simp [intOf]; omega
        · have D : Hid (¬ isD (bn s j)) := Lib.hid (by unfold isD; omega)
          go_wp2
          go_round
          case rel => exact ⟨j + 1, by omega, by go_num, by rw [P.out, if_neg D.out], by rw [K.out, if_neg D.out]⟩
          case measure => simp [intOf]; omega
      · have JM : Hid (j = min s.size 11) := Lib.hid (by omega)
        by_cases h45 : bn s 0 = 45
        · have N : Hid (isNeg s) := Lib.hid ⟨by omega, h45⟩
          have PN := Lib.hid (show pN s = -(pn s j : Int) by rw [pN, if_pos N.out, ← JM.out])
          by_cases c1 : pk s j ≤ 9
          · by_cases c2 : s.size ≤ 10
            · exact absurd c2 (by omega)
            · have E := Lib.hid (par_no (s := s) fun h => c2 h.2.1)
              go_wp2
              go_ret2
              exact ⟨ret_ib E.out.2.symm E.out.1.symm, Below.refl _ _⟩
          · have E := Lib.hid (par_no (s := s) fun h => c1 (by rw [JM.out]; exact h.1))
            go_wp2
            go_ret2
            exact ⟨ret_ib E.out.2.symm E.out.1.symm, Below.refl _ _⟩
        · have N : Hid (¬ isNeg s) := Lib.hid fun h => h45 h.2
          have PN := Lib.hid (show pN s = (pn s j : Int) by rw [pN, if_neg N.out, ← JM.out])
          by_cases c1 : pk s j ≤ 9
          · by_cases c2 : s.size ≤ 10
            · exact absurd c2 (by omega)
            · have E := Lib.hid (par_no (s := s) fun h => c2 h.2.1)
              go_wp2
              go_ret2
              exact ⟨ret_ib E.out.2.symm E.out.1.symm, Below.refl _ _⟩
          · have E := Lib.hid (par_no (s := s) fun h => c1 (by rw [JM.out]; exact h.1))
            go_wp2
            go_ret2
            exact ⟨ret_ib E.out.2.symm E.out.1.symm, Below.refl _ _⟩
    · have JM : Hid (j = min s.size 11) := Lib.hid (by omega)
      have hje : s.size ≤ j := by omega
      have hje2 : j ≤ s.size := by omega
      by_cases hz : 0 < s.size
      · by_cases h45 : bn s 0 = 45
        · have N : Hid (isNeg s) := Lib.hid ⟨hz, h45⟩
          have PN := Lib.hid (show pN s = -(pn s j : Int) by rw [pN, if_pos N.out, ← JM.out])
          by_cases c1 : pk s j ≤ 9
          · by_cases c2 : s.size ≤ 10
            · by_cases c3 : fmtI (-(pn s j : Int)) = s
              · have OK := Lib.hid (par_yes (s := s) ⟨by rw [← JM.out]; exact c1, c2, by rw [PN.out]; exact c3⟩)
                have c4 : ((fmtI (-(pn s j : Int))).toList == s.toList) = true := by rw [c3]; simp
                have c5 : (fmtI (-(pn s j : Int))).toList = s.toList := by rw [c3]
                clear c3
                go_wp2_with (go_at_call 68; refine (spec_FormatInt (-(pn s j : Int)) (by omega) (by omega) _).mono ?_; rintro e w' ⟨rfl, hb1⟩)
                all_goals go_ret2
                all_goals exact ⟨ret_ib (by rw [OK.out.2, PN.out]) OK.out.1.symm, hb1⟩
              · have E := Lib.hid (par_no (s := s) fun h => c3 (by rw [← PN.out]; exact h.2.2))
                have c5 : ¬ (fmtI (-(pn s j : Int))).toList = s.toList := fun h => c3 (by
                  rw [ByteArray.toList_eq, ByteArray.toList_eq] at h
                  apply ByteArray.ext; apply Array.toList_inj.1; exact h)
                have c6 : ((fmtI (-(pn s j : Int))).toList == s.toList) = false := by simpa using c5
                have c7 : ((fmtI (-(pn s j : Int))).toList != s.toList) = true := by simpa using c5
                clear c3
                go_wp2_with (go_at_call 68; refine (spec_FormatInt (-(pn s j : Int)) (by omega) (by omega) _).mono ?_; rintro e w' ⟨rfl, hb1⟩)
                all_goals go_ret2
                all_goals exact ⟨ret_ib E.out.2.symm E.out.1.symm, hb1⟩
            · have E := Lib.hid (par_no (s := s) fun h => c2 h.2.1)
              go_wp2
              go_ret2
              exact ⟨ret_ib E.out.2.symm E.out.1.symm, Below.refl _ _⟩
          · have E := Lib.hid (par_no (s := s) fun h => c1 (by rw [JM.out]; exact h.1))
            go_wp2
            go_ret2
            exact ⟨ret_ib E.out.2.symm E.out.1.symm, Below.refl _ _⟩
        · have N : Hid (¬ isNeg s) := Lib.hid fun h => h45 h.2
          have PN := Lib.hid (show pN s = (pn s j : Int) by rw [pN, if_neg N.out, ← JM.out])
          by_cases c1 : pk s j ≤ 9
          · by_cases c2 : s.size ≤ 10
            · by_cases c3 : fmtI ((pn s j : Int)) = s
              · have OK := Lib.hid (par_yes (s := s) ⟨by rw [← JM.out]; exact c1, c2, by rw [PN.out]; exact c3⟩)
                have c4 : ((fmtI ((pn s j : Int))).toList == s.toList) = true := by rw [c3]; simp
                have c5 : (fmtI ((pn s j : Int))).toList = s.toList := by rw [c3]
                clear c3
                go_wp2_with (go_at_call 68; refine (spec_FormatInt ((pn s j : Int)) (by omega) (by omega) _).mono ?_; rintro e w' ⟨rfl, hb1⟩)
                all_goals go_ret2
                all_goals exact ⟨ret_ib (by rw [OK.out.2, PN.out]) OK.out.1.symm, hb1⟩
              · have E := Lib.hid (par_no (s := s) fun h => c3 (by rw [← PN.out]; exact h.2.2))
                have c5 : ¬ (fmtI ((pn s j : Int))).toList = s.toList := fun h => c3 (by
                  rw [ByteArray.toList_eq, ByteArray.toList_eq] at h
                  apply ByteArray.ext; apply Array.toList_inj.1; exact h)
                have c6 : ((fmtI ((pn s j : Int))).toList == s.toList) = false := by simpa using c5
                have c7 : ((fmtI ((pn s j : Int))).toList != s.toList) = true := by simpa using c5
                clear c3
                go_wp2_with (go_at_call 68; refine (spec_FormatInt ((pn s j : Int)) (by omega) (by omega) _).mono ?_; rintro e w' ⟨rfl, hb1⟩)
                all_goals go_ret2
                all_goals exact ⟨ret_ib E.out.2.symm E.out.1.symm, hb1⟩
            · have E := Lib.hid (par_no (s := s) fun h => c2 h.2.1)
              go_wp2
              go_ret2
              exact ⟨ret_ib E.out.2.symm E.out.1.symm, Below.refl _ _⟩
          · have E := Lib.hid (par_no (s := s) fun h => c1 (by rw [JM.out]; exact h.1))
            go_wp2
            go_ret2
            exact ⟨ret_ib E.out.2.symm E.out.1.symm, Below.refl _ _⟩
      · have N : Hid (¬ isNeg s) := Lib.hid fun h => hz h.1
        have PN := Lib.hid (show pN s = (pn s j : Int) by rw [pN, if_neg N.out, ← JM.out])
        have c1 : pk s j ≤ 9 := by omega
        have c2 : s.size ≤ 10 := by omega
        by_cases c3 : fmtI ((pn s j : Int)) = s
        · have OK := Lib.hid (par_yes (s := s) ⟨by rw [← JM.out]; exact c1, c2, by rw [PN.out]; exact c3⟩)
          have c4 : ((fmtI ((pn s j : Int))).toList == s.toList) = true := by rw [c3]; simp
          have c5 : (fmtI ((pn s j : Int))).toList = s.toList := by rw [c3]
          clear c3
          go_wp2_with (go_at_call 68; refine (spec_FormatInt ((pn s j : Int)) (by omega) (by omega) _).mono ?_; rintro e w' ⟨rfl, hb1⟩)
          all_goals go_ret2
          all_goals exact ⟨ret_ib (by rw [OK.out.2, PN.out]) OK.out.1.symm, hb1⟩
        · have E := Lib.hid (par_no (s := s) fun h => c3 (by rw [← PN.out]; exact h.2.2))
          have c5 : ¬ (fmtI ((pn s j : Int))).toList = s.toList := fun h => c3 (by
            rw [ByteArray.toList_eq, ByteArray.toList_eq] at h
            apply ByteArray.ext; apply Array.toList_inj.1; exact h)
          have c6 : ((fmtI ((pn s j : Int))).toList == s.toList) = false := by simpa using c5
          have c7 : ((fmtI ((pn s j : Int))).toList != s.toList) = true := by simpa using c5
          clear c3
          go_wp2_with (go_at_call 68; refine (spec_FormatInt ((pn s j : Int)) (by omega) (by omega) _).mono ?_; rintro e w' ⟨rfl, hb1⟩)
          all_goals go_ret2
          all_goals exact ⟨ret_ib E.out.2.symm E.out.1.symm, hb1⟩
end Go.Proofs.YtfhlmindkogdoaaGreatDoor
