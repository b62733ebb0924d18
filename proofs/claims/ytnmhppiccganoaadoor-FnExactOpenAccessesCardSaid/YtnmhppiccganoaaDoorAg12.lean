/- Plain facts on bytes and numbers, and small laws on memory, that the walks of this seat use. Conditions: none beyond each theorem's own. What the two functions FormatInt answer. Conditions: none beyond each theorem's own. What formatWords and formatEach answer on numbers, whatever the format. Conditions: none beyond each theorem's own. What the two functions FormatFact answer. Conditions: none beyond each theorem's own. What the two functions FormatFact answer. Conditions: none beyond each theorem's own. What the two functions FormatAccess answer. Conditions: none beyond each theorem's own. -/
import Derived.Test.YtnmhppiccganoaaDoorInts
import Derived.WalkKit
import Derived.ProofKit
import Derived.OpenShut
import Derived.ShutString
import Derived.Below
import Derived.Handy
import Derived.ChangeSame
import Derived.Laws.BytesArg
import Derived.WalkLawsBesides
import Derived.WalkSpells
import Derived.Lib.Hide
import Derived.OwnWalk
import Derived.Laws.OwnMore
import Derived.Maps.AppendAt
import Derived.Laws.AppendOwn
import Derived.Test.YtnmhppiccganoaaDoorShelf
import Derived.Lib.AppendIntMem
import Derived.Lib.SmallJoins
import Derived.Test.YtnmhppiccganoaaDoorReads
import Derived.Lib.QuietBelow

namespace Go.Proofs.YtnmhppiccganoaaDoor
open Go.ChangeShapes Go.WideShapes Go.ChangeAt Go.RowKit

/-- n / 256^k, kept whole. -/
def dq (n k : Nat) : Nat := n / 256 ^ k
theorem dq_le (n k : Nat) : dq n k ≤ n := Nat.div_le_self _ _
theorem dq_zero (n : Nat) : dq n 0 = n := by simp [dq]
theorem dq_succ (n k : Nat) : dq n (k + 1) = dq n k / 256 := by
  unfold dq; rw [Nat.pow_succ, Nat.div_div_eq_div_mul]
/-- The lowest i digits of N to the base 256, the highest first. -/
def be (N : Nat) : Nat → List UInt8
  | 0 => []
  | i + 1 => UInt8.ofNat (dq N i % 256) :: be N i
theorem be_length (N : Nat) : ∀ i, (be N i).length = i
  | 0 => rfl
  | i + 1 => by simp [be, be_length N i]
def fixedS (n wd : Nat) : ByteArray := ⟨(if dq n wd = 0 then be n wd else []).toArray⟩
/-- What EncodeFixed answers. -/
def fixedI (n wd : Int) : ByteArray := if 1 ≤ wd ∧ wd ≤ 7 ∧ 0 ≤ n then fixedS n.toNat wd.toNat else ⟨#[]⟩

theorem ba_append (a b : List UInt8) : (⟨a.toArray⟩ : ByteArray) ++ ⟨b.toArray⟩ = ⟨(a ++ b).toArray⟩ := by
  apply ByteArray.ext
  simp

/-- Byte k of a string as a number; 0 behind its end. -/
def bn (s : ByteArray) (k : Nat) : Nat := if h : k < s.size then (s[k]'h).toNat else 0
theorem get_bn (s : ByteArray) : ∀ (n : Nat) (h : n < s.size), (s[n]'h).toNat = bn s n := fun n h => by unfold bn; rw [dif_pos h]
theorem bn_le (s : ByteArray) (k : Nat) : bn s k ≤ 255 := by
  unfold bn; split
  · have := (s[k]).toNat_lt; omega
  · omega
/-- The first k bytes as a number to the base 256. -/
def decN (s : ByteArray) : Nat → Nat
  | 0 => 0
  | k + 1 => decN s k * 256 + bn s k
theorem decN_lt (s : ByteArray) : ∀ k, decN s k < 256 ^ k
  | 0 => by simp [decN]
  | k + 1 => by
    have h := decN_lt s k
    have hb := bn_le s k
    simp only [decN, Nat.pow_succ]
    omega
theorem decN_le (s : ByteArray) {k : Nat} (h : k ≤ 6) : decN s k ≤ 281474976710655 := by
  have h1 := decN_lt s k
  have h2 : 256 ^ k ≤ 256 ^ 6 := Nat.pow_le_pow_right (by omega) h
  simp only [Nat.reducePow] at h2
  omega
theorem ofInt_i64 (a : Nat) (ha : a < 9223372036854775808) : (BitVec.ofInt 64 (a : Int)).toNat = a := by
  rw [BitVec.ofInt_natCast, BitVec.toNat_ofNat]; exact Nat.mod_eq_of_lt (by omega)
theorem i64_or_nat (a b : Nat) (ha : a < 9223372036854775808) (hb : b < 9223372036854775808) : bits .or .i64 (a : Int) (b : Int) = ((a ||| b : Nat) : Int) := by
  have hx : a ||| b < 2 ^ 63 := Nat.or_lt_two_pow (by omega) (by omega)
  show IntKind.i64.wrap ((BitVec.ofInt 64 (a : Int) ||| BitVec.ofInt 64 (b : Int)).toNat : Int) = _
  rw [BitVec.toNat_or, ofInt_i64 a ha, ofInt_i64 b hb, IntKind.wrap_i64]
  omega
theorem or_low (a b i : Nat) (hb : b < 2 ^ i) : (a * 2 ^ i) ||| b = a * 2 ^ i + b := by
  have := Nat.two_pow_add_eq_or_of_lt (i := i) hb a
  rw [Nat.mul_comm, this]
theorem or_dec (a b : Nat) (ha : a ≤ 281474976710655) (hb : b ≤ 255) : bits .or .i64 ((a : Int) * 256) (b : Int) = ((a * 256 + b : Nat) : Int) := by
  have h := i64_or_nat (a * 256) b (by omega) (by omega)
  rw [show a * 256 = a * 2 ^ 8 from rfl, or_low a b 8 (by omega)] at h
  rw [show ((a : Int) * 256) = ((a * 2 ^ 8 : Nat) : Int) by omega, h]
theorem i64_rng {a : Int} (h : (Lit.int .i64 a).wf = true) : -9223372036854775808 ≤ a ∧ a ≤ 9223372036854775807 := by
  simpa [Lit.wf, IntKind.min, IntKind.max, IntKind.signed, IntKind.bits] using h
/-- The bytes of a varint. -/
def vb (n : Nat) : List UInt8 := if n < 128 then [UInt8.ofNat n] else UInt8.ofNat (n % 128 + 128) :: vb (n / 128)
theorem vb_small {n : Nat} (h : n < 128) : vb n = [UInt8.ofNat n] := by rw [vb, if_pos h]
theorem vb_big {n : Nat} (h : ¬ n < 128) : vb n = UInt8.ofNat (n % 128 + 128) :: vb (n / 128) := by rw [vb, if_neg h]
theorem vb_len : ∀ (k n : Nat), n < 128 ^ (k + 1) → (vb n).length ≤ k + 1
  | 0, n, h => by rw [vb_small (by simpa using h)]; simp
  | k + 1, n, h => by
    by_cases h1 : n < 128
    · rw [vb_small h1]; simp
    · rw [vb_big h1]
      have := vb_len k (n / 128) (by
        rw [Nat.pow_succ] at h
        exact Nat.div_lt_of_lt_mul (by omega))
      simp only [List.length_cons]
      omega
theorem vb_len7 {n : Nat} (h : n ≤ 562949953421311) : (vb n).length ≤ 7 := vb_len 6 n (Nat.lt_of_lt_of_le (show n < 562949953421312 by omega) (by decide))
/-- What EncodeVarint answers. -/
def varI (n : Int) : ByteArray := ⟨(if 0 ≤ n ∧ n ≤ 562949953421311 then vb n.toNat else []).toArray⟩
theorem oneC (x : Int) : ∀ u ∈ [Value.int .u8 x], u.oneCell' = true := by intro u hu; simp at hu; subst hu; rfl
/-- The hex digit of k, as a number. -/
def hx (k : Nat) : Nat := if k < 10 then 48 + k else 87 + k
theorem get_hx : ∀ (n : Nat) (h : n < (⟨#[48, 49, 50, 51, 52, 53, 54, 55, 56, 57, 97, 98, 99, 100, 101, 102]⟩ : ByteArray).size), ((⟨#[48, 49, 50, 51, 52, 53, 54, 55, 56, 57, 97, 98, 99, 100, 101, 102]⟩ : ByteArray)[n]'h).toNat = hx n := by
  intro n h
  have h16 : n < 16 := h
  rcases (by omega : n = 0 ∨ n = 1 ∨ n = 2 ∨ n = 3 ∨ n = 4 ∨ n = 5 ∨ n = 6 ∨ n = 7 ∨ n = 8 ∨ n = 9 ∨ n = 10 ∨ n = 11 ∨ n = 12 ∨ n = 13 ∨ n = 14 ∨ n = 15) with rfl | rfl | rfl | rfl | rfl | rfl | rfl | rfl | rfl | rfl | rfl | rfl | rfl | rfl | rfl | rfl <;> rfl
theorem hx_le {k : Nat} (h : k < 16) : hx k ≤ 102 := by unfold hx; split <;> omega
/-- The hex digits of the first k bytes, as numbers. -/
def hxs (s : ByteArray) : Nat → List Int
  | 0 => []
  | k + 1 => hxs s k ++ [(hx (bn s k / 16) : Int), (hx (bn s k % 16) : Int)]
theorem hxs_length (s : ByteArray) : ∀ k, (hxs s k).length = 2 * k
  | 0 => rfl
  | k + 1 => by simp [hxs, hxs_length s k]; omega
/-- What EncodeHex answers. -/
def hexS (s : ByteArray) : ByteArray := ⟨((hxs s s.size).map fun n => UInt8.ofNat n.toNat).toArray⟩
/-- string(b) for a block of the call's own that holds just these bytes. -/
theorem convL (P : Program) (src e dst : TypeId) (hs : P.underlying src = some (.slice e)) (he : P.underlying e = some (.int .u8)) (hd : P.underlying dst = some .string) (W : World) (xs : List Int) (n c : Nat) (hn : xs.length = n) :
    (convert src dst (.slice (some ⟨W.heap.size, 0, none⟩) n c)).run P (W.alloc (.cells (xs.map (Value.int .u8)).toArray e)) = .ok (.string ⟨(xs.map fun n => UInt8.ofNat n.toNat).toArray⟩) (W.alloc (.cells (xs.map (Value.int .u8)).toArray e)) :=
  run_convert_bytes_arg (P := P) (W.alloc (.cells (xs.map (Value.int .u8)).toArray e)) src e hs he W.heap.size 0 n c xs hn (fun i hi => by
    subst hn
    simp [List.getD_eq_getElem?_getD, hi]) dst hd
theorem conv1 (P : Program) (src e dst : TypeId) (hs : P.underlying src = some (.slice e)) (he : P.underlying e = some (.int .u8)) (hd : P.underlying dst = some .string) (W : World) (x : Int) :
    (convert src dst (.slice (some ⟨W.heap.size, 0, none⟩) 1 1)).run P (W.alloc (.cells #[.int .u8 x] e)) = .ok (.string ⟨#[UInt8.ofNat x.toNat]⟩) (W.alloc (.cells #[.int .u8 x] e)) :=
  convL P src e dst hs he hd W [x] 1 1 rfl

end Go.Proofs.YtnmhppiccganoaaDoor

namespace Go.Proofs.YtnmhppiccganoaaDoor
open Go.ChangeShapes Go.WideShapes Go.ChangeAt Go.RowKit
set_option linter.unusedVariables false

/-- What FormatInt answers. -/
def fmtI (n : Int) : ByteArray := ⟨(Lib.itoa n).toArray⟩
abbrev Tab (w : World) : Prop := Lib.TabIs Tryd.prog w "internal/strconv.uint64pow10" .u64 Lib.pow10Tab

set_option maxRecDepth 100000 in
theorem impl_FormatInt (n : Int) (h0 : -9223372036854775808 ≤ n) (h1 : n ≤ 9223372036854775807) (w : World) (ht : Tab w) :
    Calls Tryd.prog 58 #[.int .i64 n] w fun e w' => e = .returned (.string (fmtI n)) ∧ Below w.heap.size w w' := by
  have HT := Lib.hid ht
  clear ht
  go_enter Tryd.func58, Tryd.ntmps58
  go_wp2_with fail
  refine (Tryd.strconv_Itoa n h0 h1 _ HT.out).mono ?_
  rintro e w' ⟨rfl, k, os, rfl⟩
  go_wp2
  go_ret
  exact ⟨rfl, Lib.below_grow _ _ (Nat.le_refl _) _ _⟩

/-- The digits of u; none of 0. -/
def dd0 (u : Nat) : List UInt8 := if u = 0 then [] else Lib.decDigits u
theorem dd0_step {u : Nat} (h : u ≠ 0) : dd0 u = dd0 (u / 10) ++ [UInt8.ofNat (48 + u % 10)] := by
  unfold dd0
  rw [if_neg h]
  by_cases h1 : u < 10
  · rw [Lib.decDigits_one h1, if_pos (by omega), List.nil_append, show u % 10 = u by omega]
  · rw [Lib.decDigits, dif_neg h1, if_neg (by omega)]
theorem dd0_pos {u : Nat} (h : u ≠ 0) : dd0 u = Lib.decDigits u := by unfold dd0; rw [if_neg h]
theorem dd0_len : ∀ (k u : Nat), u < 10 ^ k → (dd0 u).length ≤ k
  | 0, u, h => by
    have : u = 0 := by simpa using h
    subst this
    simp [dd0]
  | k + 1, u, h => by
    by_cases h0 : u = 0
    · subst h0; simp [dd0]
    · rw [dd0_step h0, List.length_append]
      have := dd0_len k (u / 10) (by rw [Nat.pow_succ] at h; omega)
      simp only [List.length_cons, List.length_nil]
      omega
theorem dd0_len19 {u : Nat} (h : u ≤ 9223372036854775808) : (dd0 u).length ≤ 19 := dd0_len 19 u (Nat.lt_of_le_of_lt h (by decide))

theorem itoa_pos {u : Nat} (h : u ≠ 0) : fmtI (u : Int) = ⟨(dd0 u).toArray⟩ := by
  unfold fmtI
  rw [Lib.itoa, if_neg (by omega), Int.toNat_natCast, dd0_pos h]
theorem itoa_neg {u : Nat} (h : u ≠ 0) : fmtI (-(u : Int)) = ⟨(45 :: dd0 u).toArray⟩ := by
  unfold fmtI
  rw [Lib.itoa, if_pos (by omega), dd0_pos h, Int.natAbs_neg, Int.natAbs_natCast]

end Go.Proofs.YtnmhppiccganoaaDoor

namespace Go.Proofs.YtnmhppiccganoaaDoor
open Go.ChangeShapes Go.WideShapes Go.ChangeAt Go.RowKit Go.Sort
set_option linter.unusedVariables false
set_option linter.unusedSimpArgs false

theorem string_info : (Tryd.prog.info? 9).map (fun i => (i.zero, i.size, i.bytes)) = some (some (.string ⟨#[]⟩), 1, 16) := by kernel_rfl
theorem makeStrs (n : Nat) (hn : n ≤ 1048576) :
    ∃ C : Array Value, (∀ i, i < n → C[i]? = some (.string ⟨#[]⟩)) ∧ C.size = n ∧ ∀ W : World, (Instr.makeSlice 105 (.int .i64 (n : Int)) (.int .i64 (n : Int))).run Tryd.prog W = .ok (.slice (some ⟨W.heap.size, 0, none⟩) n n) (W.alloc (.cells C 9)) := by
  obtain ⟨i0, hi, hz0, hz1, hz2⟩ := info_parts string_info
  refine ⟨madeCells #[.string ⟨#[]⟩] n, fun i hin => ?_, size_madeCells _ _, fun W => ?_⟩
  · simp [madeCells, hin, Nat.mod_one]
  · have h := run_make (P := Tryd.prog) W 105 9 i0 (.string ⟨#[]⟩) Tryd.underlying105 hi hz0 .i64 .i64 (n : Int) (n : Int) (by omega) (by omega) (by rw [hz2]; omega) (by omega)
    rw [hz1, show ((n : Int)).toNat = n by omega, Nat.mul_one] at h
    exact h

/-- In a new row lie the words ws. -/
def WdsOut (w : World) (ws : List ByteArray) (e : Ending) (w' : World) : Prop :=
  e = .returned (.slice (some ⟨w.heap.size, 0, none⟩) ws.length ws.length) ∧ w'.rowIs w.heap.size 9 ws.length (fun j => .string (ws.getD j ⟨#[]⟩)) ∧ Below w.heap.size w w' ∧ w.heap.size < w'.heap.size
theorem getD_map {α : Type} (l : List α) (wd : α → ByteArray) (d : α) {j : Nat} (hj : j < l.length) : (l.map wd).getD j ⟨#[]⟩ = wd (l.getD j d) := by
  simp [List.getD_eq_getElem?_getD, List.getElem?_map, hj]
theorem words_cells {w' : World} {g : Nat} {ws : List ByteArray} (h : w'.rowIs g 9 ws.length (fun j => .string (ws.getD j ⟨#[]⟩))) (j : Nat) (x : ByteArray) (hx : ws[j]? = some x) : w'.cell? ⟨g, 0 + j, none⟩ = some (.string x) := by
  have hj : j < ws.length := (List.getElem?_eq_some_iff.1 hx).1
  rw [Nat.zero_add, h.cell hj, List.getD_eq_getElem?_getD, hx]
  rfl

set_option maxRecDepth 100000 in
set_option maxHeartbeats 1000000 in
theorem formatWords_int (n : Nat) (hn : ∀ args W, (callFunc n args).run Tryd.prog W = .ok (.enter n args) W) (wd : Int → ByteArray) (A : Option Addr) (c : Nat) (xs : List Int) (hl : xs.length ≤ 1048576) (w : World) (h : RI w A xs)
    (hF : ∀ j, j < xs.length → ∀ W, Below w.heap.size w W → Calls Tryd.prog n #[.int .i64 (xs.getD j 0)] W fun e w' => e = .returned (.string (wd (xs.getD j 0))) ∧ Below W.heap.size W w') :
    Calls Tryd.prog 78 #[.slice A xs.length c, .func (.func n) #[] #[]] w (WdsOut w (xs.map wd)) := by
  obtain ⟨C, hC, hCs, hmk⟩ := makeStrs xs.length hl
  have HI := Lib.hid h
  have HF := Lib.hid hF
  have HC := Lib.hid hC
  have HS := Lib.hid hCs
  have hl' : (xs.length : Int) ≤ 1048576 := by omega
  clear h hF hC hCs
  go_enter Tryd.func78, Tryd.ntmps78
  go_wp2
  go_loopw [6, 7, 13] (fun _ _ i wr => ∃ k : Nat, k ≤ xs.length ∧ i = .int .i64 k ∧ (∃ f, wr.rowIs w.heap.size 9 xs.length f ∧ ∀ j, j < k → f j = .string (wd (xs.getD j 0))) ∧ Below w.heap.size w wr ∧ w.heap.size < wr.heap.size) (fun _ _ i _ => xs.length - (intOf i).toNat)
  case atStart => exact ⟨0, by omega, rfl, ⟨fun _ => .string ⟨#[]⟩, ⟨C, by rw [heap_alloc_new], HS.out, fun i hi => HC.out i hi⟩, fun j hj => by omega⟩, below_alloc _ _, by simp⟩
  case round =>
    obtain ⟨k, hk, rfl, ⟨f, hr, hf⟩, hb, hsz⟩ := hrel
    have HFF := Lib.hid hf
    have HR := Lib.hid hr
    clear hf hr
    by_cases hlt : k < xs.length
    · obtain ⟨b, off, rfl, _, hc⟩ := (HI.out.step hb).at_ hlt
      have XF := Lib.hid (HF.out k hlt wr hb)
      generalize hx : xs.getD k 0 = x at hc XF
      have HX := Lib.hid hx
      generalize hy : wd x = y at XF
      have HY := Lib.hid hy
      clear hx hy
      go_wp2_with fail
      go_at_fn n
      refine XF.out.mono ?_
      rintro e u ⟨rfl, d⟩
      have hb2 := step hb d
      have HR2 := Lib.hid (World.rowIs.of_block HR.out (d.block _ hsz))
      have hsz2 : w.heap.size < u.heap.size := by have := d.size; omega
      have hz1 := HR2.out.cell hlt
      have hz2 := HR2.out.frozen k
      clear d
      go_wp2
      go_roundw
      case rel =>
        refine ⟨k + 1, by omega, by go_num, ⟨_, HR2.out.set k _, fun j hj => ?_⟩, hb2.setCell (Nat.le_refl _) _, by simpa [World.setCell] using hsz2⟩
        by_cases e : j = k
        · subst e; rw [if_pos rfl, HX.out, HY.out]
        · rw [if_neg e]; exact HFF.out j (by omega)
      case measure => simp [intOf]; omega
    · obtain rfl : k = xs.length := by omega
      have O := Lib.hid (show WdsOut w (xs.map wd) (.returned (.slice (some ⟨w.heap.size, 0, none⟩) xs.length xs.length)) wr by
        refine ⟨by rw [List.length_map], ?_, hb, hsz⟩
        rw [List.length_map]
        exact HR.out.congr fun j hj => by rw [HFF.out j hj, getD_map xs wd 0 hj])
      go_wp2
      go_ret
      exact O.out

set_option maxRecDepth 100000 in
set_option maxHeartbeats 1000000 in
theorem formatEach_int (n : Nat) (hn : ∀ args W, (callFunc n args).run Tryd.prog W = .ok (.enter n args) W) (wd : Int → ByteArray) (sep : ByteArray) (A : Option Addr) (c : Nat) (xs : List Int) (hl : xs.length ≤ 1048576) (w : World) (h : RI w A xs)
    (hF : ∀ j, j < xs.length → ∀ W, Below w.heap.size w W → Calls Tryd.prog n #[.int .i64 (xs.getD j 0)] W fun e w' => e = .returned (.string (wd (xs.getD j 0))) ∧ Below W.heap.size W w')
    (L : List UInt8) (hL : Lib.join ((xs.map wd).map (·.data.toList)) sep.data.toList = L) (hlen : L.length ≤ 140737488355328) :
    Calls Tryd.prog 72 #[.slice A xs.length c, .string sep, .func (.func n) #[] #[]] w fun e w' => e = .returned (.string ⟨L.toArray⟩) ∧ Below w.heap.size w w' := by
  have XW := Lib.hid (formatWords_int n hn wd A c xs hl w h hF)
  have hm : (xs.map wd).length = xs.length := List.length_map _
  have HL := Lib.hid hL
  have HN := Lib.hid hlen
  clear h hF hL hlen
  generalize hws : xs.map wd = ws at XW hm HL
  have hw1 : ws.length ≤ 1048576 := by omega
  clear hws hm
  go_enter Tryd.func72, Tryd.ntmps72
  go_wp2_with fail
  refine XW.out.mono ?_
  rintro e u ⟨rfl, hr, hb, hsz⟩
  have HJ := Lib.hid (Tryd.strings_Join w.heap.size 0 ws.length ws sep u (words_cells hr) hsz (by omega) (Nat.le_refl _) (by rw [HL.out]; exact HN.out))
  have HB := Lib.hid hb
  rw [HL.out] at HJ
  clear hr hb hsz
  go_wp2_with fail
  refine HJ.out.mono ?_
  rintro e u2 ⟨rfl, d⟩
  go_wp2
  go_ret
  exact ⟨rfl, step HB.out d⟩
end Go.Proofs.YtnmhppiccganoaaDoor

namespace Go.Proofs.YtnmhppiccganoaaDoor
open Go.ChangeShapes Go.WideShapes Go.ChangeAt Go.RowKit Go.Sort
set_option linter.unusedVariables false
set_option linter.unusedSimpArgs false

/-- The digit of d. -/
def dg (d : Int) : UInt8 := UInt8.ofNat (48 + d.toNat)
theorem fmt_digit {d : Int} (h0 : 0 ≤ d) (h1 : d ≤ 9) : fmtI d = ⟨#[dg d]⟩ := by
  unfold fmtI
  rw [Lib.itoa, if_neg (by omega), Lib.decDigits_one (by omega)]
  rfl
/-- The digits, commas between. -/
def commaL : List Int → List UInt8
  | [] => []
  | [x] => [dg x]
  | x :: y :: r => dg x :: 44 :: commaL (y :: r)
theorem commaL_snoc : ∀ (l : List Int) (x : Int), l ≠ [] → commaL (l ++ [x]) = commaL l ++ [44, dg x]
  | [], x, h => absurd rfl h
  | [y], x, _ => rfl
  | y :: z :: r, x, _ => by
    have ih := commaL_snoc (z :: r) x (by simp)
    simp only [List.cons_append] at ih ⊢
    rw [commaL, commaL, ih]
    rfl
theorem commaL_take (l : List Int) (k : Nat) (hk : k < l.length) : commaL (l.take (k + 1)) = if k = 0 then [dg (l.getD k 0)] else commaL (l.take k) ++ [44, dg (l.getD k 0)] := by
  have e : l[k] = l.getD k 0 := by simp [List.getD_eq_getElem?_getD, hk]
  rw [List.take_succ_eq_append_getElem hk, e]
  by_cases h0 : k = 0
  · subst h0; simp [commaL]
  · rw [if_neg h0, commaL_snoc]
    intro h
    have := congrArg List.length h
    rw [List.length_take, List.length_nil] at this
    omega
theorem commaL_len : ∀ l : List Int, (commaL l).length ≤ 2 * l.length
  | [] => by simp [commaL]
  | [x] => by simp [commaL]
  | x :: y :: r => by
    have := commaL_len (y :: r)
    simp only [commaL, List.length_cons] at this ⊢
    omega
theorem comma_join : ∀ l : List Int, Lib.join (l.map fun x => [dg x]) [44] = commaL l
  | [] => rfl
  | [x] => by simp [Lib.join_one, commaL]
  | x :: y :: r => by
    have ih := comma_join (y :: r)
    simp only [List.map_cons] at ih ⊢
    rw [Lib.join_cons] at ih ⊢
    rw [commaL, ← ih]
    simp [Lib.joinTail]

/-- Has the fact a text? -/
def fmtOk (r : Int) (xs : List Int) : Bool := inB r 0 2 && inB (xs.length : Int) 1 3 && allB 0 9 xs
/-- The text of a fact. -/
def fmtF (r : Int) (xs : List Int) : ByteArray := if fmtOk r xs = true then ⟨([114, dg r, 40] ++ commaL xs ++ [41]).toArray⟩ else ⟨#[]⟩
theorem fmtF_yes {r : Int} {xs : List Int} (h : fmtOk r xs = true) : fmtF r xs = ⟨([114, dg r, 40] ++ commaL xs ++ [41]).toArray⟩ := if_pos h
theorem fmtF_no {r : Int} {xs : List Int} (h : fmtOk r xs = false) : fmtF r xs = ⟨#[]⟩ := if_neg (by simp [h])

theorem allB_get {a b : Int} {xs : List Int} (h : allB a b xs = true) {k : Nat} (hk : k < xs.length) : a ≤ xs.getD k 0 ∧ xs.getD k 0 ≤ b := by
  unfold allB at h
  rw [List.all_eq_true] at h
  have := h xs[k] (List.getElem_mem _)
  have e : xs.getD k 0 = xs[k] := by simp [List.getD_eq_getElem?_getD, hk]
  rw [e]
  simpa [inB] using this

set_option maxRecDepth 100000 in
set_option maxHeartbeats 400000 in
theorem formatList_int (A : Option Addr) (c : Nat) (xs : List Int) (hl : xs.length ≤ 3) (hd : allB 0 9 xs = true) (w : World) (h : RI w A xs) (ht : Tab w) :
    Calls Tryd.prog 65 #[.slice A xs.length c, .func (.func 58) #[] #[]] w fun e w' => e = .returned (.string ⟨(commaL xs).toArray⟩) ∧ Below w.heap.size w w' := by
  have HT := Lib.hid (Lib.tabBelow_of_tabIs ht)
  have XF := Lib.hid fun (j : Nat) (hj : j < xs.length) (W : World) (hW : Below w.heap.size w W) => (show Calls Tryd.prog 58 #[.int .i64 (xs.getD j 0)] W fun e w' => e = .returned (.string ⟨#[dg (xs.getD j 0)]⟩) ∧ Below W.heap.size W w' by
    obtain ⟨d0, d1⟩ := allB_get hd hj
    have := impl_FormatInt (xs.getD j 0) (by omega) (by omega) W (HT.out _ hW)
    rwa [fmt_digit d0 d1] at this)
  have XE := Lib.hid (formatEach_int 58 (enters_of Tryd.func58 (by kernel_rfl) rfl) (fun x => ⟨#[dg x]⟩) ⟨#[44]⟩ A c xs (by omega) w h XF.out (commaL xs) (by rw [List.map_map]; exact comma_join xs) (by have := commaL_len xs; omega))
  clear h ht hd
  generalize commaL xs = L at XE ⊢
  go_enter Tryd.func65, Tryd.ntmps65
  go_wp2_with fail
  refine XE.out.mono ?_
  rintro e u ⟨rfl, d⟩
  go_wp2
  go_ret
  exact ⟨rfl, d⟩
end Go.Proofs.YtnmhppiccganoaaDoor

namespace Go.Proofs.YtnmhppiccganoaaDoor
open Go.ChangeShapes Go.WideShapes Go.ChangeAt Go.RowKit Go.Sort
set_option linter.unusedVariables false
set_option linter.unusedSimpArgs false

theorem fmt_cat (p : UInt8) (r : Int) (L : List UInt8) : (⟨#[p]⟩ : ByteArray) ++ ⟨#[dg r]⟩ ++ ⟨#[40]⟩ ++ ⟨L.toArray⟩ ++ ⟨#[41]⟩ = ⟨([p, dg r, 40] ++ L ++ [41]).toArray⟩ := by
  rw [show (⟨#[p]⟩ : ByteArray) = ⟨[p].toArray⟩ from rfl, show (⟨#[dg r]⟩ : ByteArray) = ⟨[dg r].toArray⟩ from rfl, show (⟨#[40]⟩ : ByteArray) = ⟨[40].toArray⟩ from rfl, show (⟨#[41]⟩ : ByteArray) = ⟨[41].toArray⟩ from rfl, ba_append, ba_append, ba_append, ba_append]
  simp

set_option maxRecDepth 100000 in
set_option maxHeartbeats 1000000 in
theorem formatParts_int (p : UInt8) (r : Int) (xs : List Int) (A : Option Addr) (c : Nat) (h0 : 0 ≤ r) (h9 : r ≤ 9) (hl : xs.length ≤ 3) (hd : allB 0 9 xs = true) (w : World) (h : RI w A xs) (ht : Tab w) :
    Calls Tryd.prog 57 #[.string ⟨#[p]⟩, .int .i64 r, .slice A xs.length c, .func (.func 58) #[] #[]] w fun e w' => e = .returned (.string ⟨([p, dg r, 40] ++ commaL xs ++ [41]).toArray⟩) ∧ Below w.heap.size w w' := by
  have FD := Lib.hid (fmt_digit h0 h9)
  have HI := Lib.hid h
  have HT := Lib.hid (Lib.tabBelow_of_tabIs ht)
  have XL := Lib.hid fun (W : World) (hW : Below w.heap.size w W) => formatList_int A c xs hl hd W (HI.out.step hW) (HT.out _ hW)
  have hsz := commaL_len xs
  have hsz2 : (commaL xs).length ≤ 9 := by omega
  have FC := Lib.hid (fmt_cat p r (commaL xs))
  generalize commaL xs = L at hsz2 XL FC ⊢
  clear hsz h ht hd
  go_enter Tryd.func57, Tryd.ntmps57
  go_wp2_with fail
  refine (impl_FormatInt r (by omega) (by omega) _ (HT.out _ (Below.refl _ _))).mono ?_
  rintro e w1 ⟨he, d⟩
  rw [FD.out] at he
  subst he
  have D1 := Lib.hid d
  clear d
  go_wp2_with fail
  refine (XL.out _ D1.out).mono ?_
  rintro e w2 ⟨rfl, d⟩
  have D2 := Lib.hid (step D1.out d)
  clear d
  go_wp2
  go_ret
  exact ⟨ret_str FC.out, D2.out⟩

/-- The table of powers of ten holds, and will while no old memory turns. -/
def TabB (w : World) : Prop := ∀ w', Below w.heap.size w w' → Tab w'
theorem TabB.of {w : World} (h : Tab w) : TabB w := Lib.tabBelow_of_tabIs h
theorem TabB.step {w w' : World} (h : TabB w) (b : Below w.heap.size w w') : TabB w' := fun w2 b2 => h w2 (Go.Proofs.YtnmhppiccganoaaDoor.step b b2)
end Go.Proofs.YtnmhppiccganoaaDoor

namespace Go.Proofs.YtnmhppiccganoaaDoor
open Go.ChangeShapes Go.WideShapes Go.ChangeAt Go.RowKit Go.Sort
set_option linter.unusedVariables false
set_option linter.unusedSimpArgs false

/-- Has the access a text? -/
def acOk (r : Int) (xs : List Int) : Bool := inB r 0 4 && decide (xs.length ≤ 3) && allB 0 9 xs
/-- The text of an access. -/
def fmtAc (r : Int) (xs : List Int) : ByteArray := if acOk r xs = true then ⟨([109, dg r, 40] ++ commaL xs ++ [41]).toArray⟩ else ⟨#[]⟩
theorem fmtAc_yes {r : Int} {xs : List Int} (h : acOk r xs = true) : fmtAc r xs = ⟨([109, dg r, 40] ++ commaL xs ++ [41]).toArray⟩ := if_pos h
theorem fmtAc_no {r : Int} {xs : List Int} (h : acOk r xs = false) : fmtAc r xs = ⟨#[]⟩ := if_neg (by simp [h])

set_option maxRecDepth 100000 in
set_option maxHeartbeats 1000000 in
theorem impl_FormatAccess (r : Int) (xs : List Int) (A : Option Addr) (c : Nat) (hl : xs.length ≤ 1048576) (w : World) (h : RI w A xs) (ht : Tab w) :
    Calls Tryd.prog 34 #[.agg #[.int .i64 r, .slice A xs.length c]] w fun e w' => e = .returned (.string (fmtAc r xs)) ∧ Below w.heap.size w w' := by
  have hx' : (xs.length : Int) ≤ 1048576 := by omega
  have B0 := Lib.hid (below_alloc w (.cells #[.int .i64 r, .slice A xs.length c] 66))
  have HI := Lib.hid (h.step B0.out)
  have HT := Lib.hid (Lib.tabBelow_of_tabIs ht)
  have g0 := cell_new w #[.int .i64 r, .slice A xs.length c] 66 0
  have g1 := cell_new w #[.int .i64 r, .slice A xs.length c] 66 1
  simp only [List.getElem?_toArray, List.getElem?_cons_zero, List.getElem?_cons_succ] at g0 g1
  have k0 := cell_regrown g0
  have k1 := cell_regrown g1
  clear g0 g1
  by_cases c1 : inB r 0 4 = true
  · have C1 := Lib.hid c1
    have hr : 0 ≤ r ∧ r ≤ 4 := by simpa [inB] using c1
    by_cases c2 : xs.length ≤ 3
    · have C2 := Lib.hid c2
      have hn : (xs.length : Int) ≤ 3 := by omega
      have dn : decide ((3 : Int) < (xs.length : Int)) = false := by simp; omega
      have dn' : decide (3 < xs.length) = false := by simp; omega
      by_cases c3 : allB 0 9 xs = true
      · have C3 := Lib.hid c3
        have FO := Lib.hid (show acOk r xs = true by simp [acOk, c1, c2, C3.out])
        have XP := Lib.hid fun (W : World) (hW : Below w.heap.size w W) => formatParts_int 109 r xs A c hr.1 (by omega) (by omega) C3.out W (h.step hW) (HT.out _ hW)
        rw [fmtAc_yes FO.out]
        clear h ht c1 c3
        go_enter Tryd.func34, Tryd.ntmps34
        go_wp2_with fail
        refine (isBetween_any r 0 4 _).mono ?_
        rintro e w1 ⟨he, rfl⟩
        rw [C1.out] at he
        subst he
        go_wp2_with fail
        refine (areValues_any _ _ A c xs (by omega) _ HI.out).mono ?_
        rintro e w1 ⟨he, rfl⟩
        rw [C3.out] at he
        subst he
        clear k0 k1
        go_wp2_with fail
        refine (XP.out _ B0.out).mono ?_
        rintro e w1 ⟨rfl, d⟩
        have D1 := Lib.hid (step B0.out d)
        clear d
        go_wp2
        go_ret
        exact ⟨rfl, D1.out⟩
      · have C3 := Lib.hid (show allB 0 9 xs = false by simpa using c3)
        rw [fmtAc_no (show acOk r xs = false by simp [acOk, C3.out])]
        clear h ht c1 c3
        go_enter Tryd.func34, Tryd.ntmps34
        go_wp2_with fail
        refine (isBetween_any r 0 4 _).mono ?_
        rintro e w1 ⟨he, rfl⟩
        rw [C1.out] at he
        subst he
        go_wp2_with fail
        refine (areValues_any _ _ A c xs (by omega) _ HI.out).mono ?_
        rintro e w1 ⟨he, rfl⟩
        rw [C3.out] at he
        subst he
        go_wp2
        go_ret
        exact ⟨rfl, B0.out⟩
    · have C2 := Lib.hid c2
      have hn : (3 : Int) < (xs.length : Int) := by omega
      have dn : decide ((3 : Int) < (xs.length : Int)) = true := by simp; omega
      have dn' : decide (3 < xs.length) = true := by simp; omega
      rw [fmtAc_no (show acOk r xs = false by simp [acOk, C2.out])]
      clear h ht c1
      go_enter Tryd.func34, Tryd.ntmps34
      go_wp2_with fail
      refine (isBetween_any r 0 4 _).mono ?_
      rintro e w1 ⟨he, rfl⟩
      rw [C1.out] at he
      subst he
      go_wp2
      go_ret
      exact ⟨rfl, B0.out⟩
  · have C1 := Lib.hid (show inB r 0 4 = false by simpa using c1)
    rw [fmtAc_no (show acOk r xs = false by simp [acOk, C1.out])]
    clear h ht c1
    go_enter Tryd.func34, Tryd.ntmps34
    go_wp2_with fail
    refine (isBetween_any r 0 4 _).mono ?_
    rintro e w1 ⟨he, rfl⟩
    rw [C1.out] at he
    subst he
    go_wp2
    go_ret
    exact ⟨rfl, B0.out⟩

theorem impl_FormatAccess_r (r : Int) (xs : List Int) (A : Option Addr) (c : Nat) (hl : xs.length ≤ 1048576) (w : World) (h : RI w A xs) (ht : TabB w) :
    Calls Tryd.prog 34 #[.agg #[.int .i64 r, .slice A xs.length c]] w fun e w' => e = .returned (.string (fmtAc r xs)) ∧ Below w.heap.size w w' :=
  impl_FormatAccess r xs A c hl w h (ht w (Below.refl _ _))
end Go.Proofs.YtnmhppiccganoaaDoor
