/- Plain facts on bytes and numbers, and small laws on memory, that the walks of this seat use. Conditions: none beyond each theorem's own. -/
import Derived.Test.YtimlpdcambmcjaaDoorInts
import Derived.WalkKit
import Derived.ProofKit
import Derived.OpenShut
import Derived.ShutString
import Derived.Below
import Derived.Handy
import Derived.ChangeSame
import Derived.Laws.BytesArg
import Derived.WalkLawsBesides
import Derived.WalkSpells
import Derived.Lib.Hide
import Derived.OwnWalk
import Derived.Laws.OwnMore
import Derived.Maps.AppendAt
import Derived.Laws.AppendOwn
namespace Go.Proofs.YtimlpdcambmcjaaDoor
open Go.ChangeShapes Go.WideShapes Go.ChangeAt Go.RowKit

/-- n / 256^k, kept whole. -/
def dq (n k : Nat) : Nat := n / 256 ^ k
theorem dq_le (n k : Nat) : dq n k ≤ n := Nat.div_le_self _ _
theorem dq_zero (n : Nat) : dq n 0 = n := by simp [dq]
theorem dq_succ (n k : Nat) : dq n (k + 1) = dq n k / 256 := by
  unfold dq; rw [Nat.pow_succ, Nat.div_div_eq_div_mul]
/-- The lowest i digits of N to the base 256, the highest first. -/
def be (N : Nat) : Nat → List UInt8
  | 0 => []
  | i + 1 => UInt8.ofNat (dq N i % 256) :: be N i
theorem be_length (N : Nat) : ∀ i, (be N i).length = i
  | 0 => rfl
  | i + 1 => by simp [be, be_length N i]
def fixedS (n wd : Nat) : ByteArray := ⟨(if dq n wd = 0 then be n wd else []).toArray⟩
/-- What EncodeFixed answers. -/
def fixedI (n wd : Int) : ByteArray := if 1 ≤ wd ∧ wd ≤ 7 ∧ 0 ≤ n then fixedS n.toNat wd.toNat else ⟨#[]⟩

theorem ba_append (a b : List UInt8) : (⟨a.toArray⟩ : ByteArray) ++ ⟨b.toArray⟩ = ⟨(a ++ b).toArray⟩ := by
  apply ByteArray.ext
  simp

/-- Byte k of a string as a number; 0 behind its end. -/
def bn (s : ByteArray) (k : Nat) : Nat := if h : k < s.size then (s[k]'h).toNat else 0
theorem get_bn (s : ByteArray) : ∀ (n : Nat) (h : n < s.size), (s[n]'h).toNat = bn s n := fun n h => by unfold bn; rw [dif_pos h]
theorem bn_le (s : ByteArray) (k : Nat) : bn s k ≤ 255 := by
  unfold bn; split
  · have := (s[k]).toNat_lt; omega
  · omega
/-- The first k bytes as a number to the base 256. -/
def decN (s : ByteArray) : Nat → Nat
  | 0 => 0
  | k + 1 => decN s k * 256 + bn s k
theorem decN_lt (s : ByteArray) : ∀ k, decN s k < 256 ^ k
  | 0 => by simp [decN]
  | k + 1 => by
    have h := decN_lt s k
    have hb := bn_le s k
    simp only [decN, Nat.pow_succ]
    omega
theorem decN_le (s : ByteArray) {k : Nat} (h : k ≤ 6) : decN s k ≤ 281474976710655 := by
  have h1 := decN_lt s k
  have h2 : 256 ^ k ≤ 256 ^ 6 := Nat.pow_le_pow_right (by omega) h
  simp only [Nat.reducePow] at h2
  omega
theorem ofInt_i64 (a : Nat) (ha : a < 9223372036854775808) : (BitVec.ofInt 64 (a : Int)).toNat = a := by
  rw [BitVec.ofInt_natCast, BitVec.toNat_ofNat]; exact Nat.mod_eq_of_lt (by omega)
theorem i64_or_nat (a b : Nat) (ha : a < 9223372036854775808) (hb : b < 9223372036854775808) : bits .or .i64 (a : Int) (b : Int) = ((a ||| b : Nat) : Int) := by
  have hx : a ||| b < 2 ^ 63 := Nat.or_lt_two_pow (by omega) (by omega)
  show IntKind.i64.wrap ((BitVec.ofInt 64 (a : Int) ||| BitVec.ofInt 64 (b : Int)).toNat : Int) = _
  rw [BitVec.toNat_or, ofInt_i64 a ha, ofInt_i64 b hb, IntKind.wrap_i64]
  omega
theorem or_low (a b i : Nat) (hb : b < 2 ^ i) : (a * 2 ^ i) ||| b = a * 2 ^ i + b := by
  have := Nat.two_pow_add_eq_or_of_lt (i := i) hb a
  rw [Nat.mul_comm, this]
theorem or_dec (a b : Nat) (ha : a ≤ 281474976710655) (hb : b ≤ 255) : bits .or .i64 ((a : Int) * 256) (b : Int) = ((a * 256 + b : Nat) : Int) := by
  have h := i64_or_nat (a * 256) b (by omega) (by omega)
  rw [show a * 256 = a * 2 ^ 8 from rfl, or_low a b 8 (by omega)] at h
  rw [show ((a : Int) * 256) = ((a * 2 ^ 8 : Nat) : Int) by omega, h]
theorem i64_rng {a : Int} (h : (Lit.int .i64 a).wf = true) : -9223372036854775808 ≤ a ∧ a ≤ 9223372036854775807 := by
  simpa [Lit.wf, IntKind.min, IntKind.max, IntKind.signed, IntKind.bits] using h
/-- The bytes of a varint. -/
def vb (n : Nat) : List UInt8 := if n < 128 then [UInt8.ofNat n] else UInt8.ofNat (n % 128 + 128) :: vb (n / 128)
theorem vb_small {n : Nat} (h : n < 128) : vb n = [UInt8.ofNat n] := by rw [vb, if_pos h]
theorem vb_big {n : Nat} (h : ¬ n < 128) : vb n = UInt8.ofNat (n % 128 + 128) :: vb (n / 128) := by rw [vb, if_neg h]
theorem vb_len : ∀ (k n : Nat), n < 128 ^ (k + 1) → (vb n).length ≤ k + 1
  | 0, n, h => by rw [vb_small (by simpa using h)]; simp
  | k + 1, n, h => by
    by_cases h1 : n < 128
    · rw [vb_small h1]; simp
    · rw [vb_big h1]
      have := vb_len k (n / 128) (by
        rw [Nat.pow_succ] at h
        exact Nat.div_lt_of_lt_mul (by omega))
      simp only [List.length_cons]
      omega
theorem vb_len7 {n : Nat} (h : n ≤ 562949953421311) : (vb n).length ≤ 7 := vb_len 6 n (Nat.lt_of_lt_of_le (show n < 562949953421312 by omega) (by decide))
/-- What EncodeVarint answers. -/
def varI (n : Int) : ByteArray := ⟨(if 0 ≤ n ∧ n ≤ 562949953421311 then vb n.toNat else []).toArray⟩
theorem oneC (x : Int) : ∀ u ∈ [Value.int .u8 x], u.oneCell' = true := by intro u hu; simp at hu; subst hu; rfl
/-- The hex digit of k, as a number. -/
def hx (k : Nat) : Nat := if k < 10 then 48 + k else 87 + k
theorem get_hx : ∀ (n : Nat) (h : n < (⟨#[48, 49, 50, 51, 52, 53, 54, 55, 56, 57, 97, 98, 99, 100, 101, 102]⟩ : ByteArray).size), ((⟨#[48, 49, 50, 51, 52, 53, 54, 55, 56, 57, 97, 98, 99, 100, 101, 102]⟩ : ByteArray)[n]'h).toNat = hx n := by
  intro n h
  have h16 : n < 16 := h
  rcases (by omega : n = 0 ∨ n = 1 ∨ n = 2 ∨ n = 3 ∨ n = 4 ∨ n = 5 ∨ n = 6 ∨ n = 7 ∨ n = 8 ∨ n = 9 ∨ n = 10 ∨ n = 11 ∨ n = 12 ∨ n = 13 ∨ n = 14 ∨ n = 15) with rfl | rfl | rfl | rfl | rfl | rfl | rfl | rfl | rfl | rfl | rfl | rfl | rfl | rfl | rfl | rfl <;> rfl
theorem hx_le {k : Nat} (h : k < 16) : hx k ≤ 102 := by unfold hx; split <;> omega
/-- The hex digits of the first k bytes, as numbers. -/
def hxs (s : ByteArray) : Nat → List Int
  | 0 => []
  | k + 1 => hxs s k ++ [(hx (bn s k / 16) : Int), (hx (bn s k % 16) : Int)]
theorem hxs_length (s : ByteArray) : ∀ k, (hxs s k).length = 2 * k
  | 0 => rfl
  | k + 1 => by simp [hxs, hxs_length s k]; omega
/-- What EncodeHex answers. -/
def hexS (s : ByteArray) : ByteArray := ⟨((hxs s s.size).map fun n => UInt8.ofNat n.toNat).toArray⟩
/-- string(b) for a block of the call's own that holds just these bytes. -/
theorem convL (P : Program) (src e dst : TypeId) (hs : P.underlying src = some (.slice e)) (he : P.underlying e = some (.int .u8)) (hd : P.underlying dst = some .string) (W : World) (xs : List Int) (n c : Nat) (hn : xs.length = n) :
    (convert src dst (.slice (some ⟨W.heap.size, 0, none⟩) n c)).run P (W.alloc (.cells (xs.map (Value.int .u8)).toArray e)) = .ok (.string ⟨(xs.map fun n => UInt8.ofNat n.toNat).toArray⟩) (W.alloc (.cells (xs.map (Value.int .u8)).toArray e)) :=
  run_convert_bytes_arg (P := P) (W.alloc (.cells (xs.map (Value.int .u8)).toArray e)) src e hs he W.heap.size 0 n c xs hn (fun i hi => by
    subst hn
    simp [List.getD_eq_getElem?_getD, hi]) dst hd
theorem conv1 (P : Program) (src e dst : TypeId) (hs : P.underlying src = some (.slice e)) (he : P.underlying e = some (.int .u8)) (hd : P.underlying dst = some .string) (W : World) (x : Int) :
    (convert src dst (.slice (some ⟨W.heap.size, 0, none⟩) 1 1)).run P (W.alloc (.cells #[.int .u8 x] e)) = .ok (.string ⟨#[UInt8.ofNat x.toNat]⟩) (W.alloc (.cells #[.int .u8 x] e)) :=
  convL P src e dst hs he hd W [x] 1 1 rfl

end Go.Proofs.YtimlpdcambmcjaaDoor
