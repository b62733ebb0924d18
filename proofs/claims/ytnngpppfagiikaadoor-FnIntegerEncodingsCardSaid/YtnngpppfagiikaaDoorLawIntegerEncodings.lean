/- An encoded number is decoded again, whatever follows: the law FnIntegerEncodings returns true. The listed package-level variables are tied to the program's text by the card. Conditions: none beyond the statement's own. -/
import Derived.Test.YtnngpppfagiikaaDoorNum
import Derived.Test.YtnngpppfagiikaaDoorEncFix
import Derived.Test.YtnngpppfagiikaaDoorDecFix
import Derived.Test.YtnngpppfagiikaaDoorDecVarMath
import Derived.Test.YtnngpppfagiikaaDoorEncVar
import Derived.Test.YtnngpppfagiikaaDoorDecVar
import Derived.Test.YtnngpppfagiikaaDoorStep
import Derived.Test.YtnngpppfagiikaaDoorEncHex
import Derived.Test.YtnngpppfagiikaaDoorHexMath
import Derived.Test.YtnngpppfagiikaaDoorIdxRune
import Derived.Test.YtnngpppfagiikaaDoorDecHexI
import Derived.Test.YtnngpppfagiikaaDoorFmt
import Derived.Test.YtnngpppfagiikaaDoorDoor
import Derived.Test.YtnngpppfagiikaaDoorParse
import Derived.Test.YtnngpppfagiikaaDoorParseS
import Derived.Test.YtnngpppfagiikaaDoorParseI
import Derived.Test.YtnngpppfagiikaaDoorIntMath
import Derived.Test.YtnngpppfagiikaaDoorDraw
import Derived.Test.YtnngpppfagiikaaDoorDraw2
namespace Go.Proofs.YtnngpppfagiikaaDoor.fnIntegerEncodings
open Go.ChangeShapes Go.WideShapes Go.ChangeAt Go.RowKit
open Go.ChangeMaps (open_string shut_string)
set_option linter.unusedVariables false

set_option maxRecDepth 100000 in
set_option maxHeartbeats 4000000 in
theorem walk (w : World) (ht : Tab w) (a0 : Option Addr) (l0 c0 : Nat) (w0 : CodeIn w.heap.size w a0 l0) :
    Calls Tryd.prog 3 #[.slice a0 l0 c0] w fun e w' => e = .returned (.bool true) ∧ Below w.heap.size w w' := by
  have HT := Lib.hid (Lib.tabBelow_of_tabIs ht)
  clear ht
  by_cases hbig : (1048576 : Int) < l0
  · go_enter Tryd.func3, Tryd.ntmps3
    go_wp2
    go_ret
    exact ⟨rfl, Below.refl _ _⟩
  · have hlen : l0 ≤ 1048576 := by omega
    go_enter Tryd.func3, Tryd.ntmps3
    go_wp2_with (go_at_call 6; go_in)
    go_wp2_with fail
    refine (DrawEncodeVarint_any a0 l0 c0 _ hlen w0).mono ?_
    rintro e w1 ⟨n, rfl, hn0, hn1, b1⟩
    go_wp2_with fail
    refine (DrawEncodeHex_any a0 l0 c0 _ hlen ((w0.below b1).mono b1.size)).mono ?_
    rintro e w2 ⟨tail, rfl, htail, b2'⟩
    have b2 := b1.trans (b2'.mono b1.size)
    have W2 := Lib.hid (w0.below b2)
    go_wp2_with fail
    refine (impl_EncodeVarint n _).mono ?_
    rintro e w3 ⟨rfl, b3'⟩
    have b3 := b2.trans (b3'.mono b2.size)
    have W3 := Lib.hid (w0.below b3)
    have hvs := varI_size n
    go_wp2_with fail
    refine (impl_DecodeVarint (varI n ++ tail) (by rw [size_app]; omega) _).mono ?_
    rintro e w3 ⟨rfl, rfl⟩
    clear b1 b2 b2' b3' w0
    go_upto_region 7 with fail
    go_cut [57] (fun c wx => c = .bool false ∧ w3 = wx)
    case first =>
      by_cases r0 : 0 ≤ n
      · by_cases r1 : n ≤ 562949953421311
        · obtain ⟨u, rfl⟩ := Int.eq_ofNat_of_zero_le r0
          obtain ⟨v1, v2, v3⟩ := varI_in (u := u) (by omega) tail
          generalize varI (u : Int) = s1 at *
          go_wp2_with fail
          go_meet
          exact ⟨rfl, rfl⟩
        · obtain ⟨v1, v2⟩ := varI_out (n := n) (by omega)
          generalize varI n = s1 at *
          go_wp2_with fail
          go_meet
          exact ⟨rfl, rfl⟩
      · obtain ⟨v1, v2⟩ := varI_out (n := n) (by omega)
        generalize varI n = s1 at *
        go_wp2_with fail
        go_meet
        exact ⟨rfl, rfl⟩
    case rest =>
      obtain ⟨rfl, rfl⟩ := hcut
      go_wp2_with fail
      refine (DrawEncodeFixed_any a0 l0 c0 _ hlen (W3.out.mono b3.size)).mono ?_
      rintro e w4 ⟨x, y, rfl, hx0, hx1, hy0, hy1, b4'⟩
      have b4 := b3.trans (b4'.mono b3.size)
      go_wp2_with fail
      refine (impl_EncodeFixed x y ⟨hx0, hx1⟩ ⟨by omega, by omega⟩ _).mono ?_
      rintro e w5 ⟨rfl, b5'⟩
      have b5 := b4.trans (b5'.mono b4.size)
      have hfs := fixedI_size x y
      go_wp2_with fail
      refine (impl_DecodeFixed (fixedI x y ++ tail) y (by rw [size_app]; omega) ⟨by omega, by omega⟩ _).mono ?_
      rintro e w6 ⟨rfl, rfl⟩
      clear b3 b4' b5' W2 W3
      go_upto_region 12 with fail
      go_cut [11, 12, 99] (fun _ _ c wx => c = .bool false ∧ Below w.heap.size w wx)
      case first =>
        have HS := fun W => spec_EncodeFixed x y ⟨hx0, hx1⟩ ⟨by omega, by omega⟩ W
        by_cases hf : (fixedI x y).toList = []
        · have hf2 : (fixedI x y).toList.isEmpty = true := by rw [hf]; rfl
          generalize fixedI x y = f at *
          have HS2 := Lib.hid HS
          clear HS
          go_wp2_with (go_at_call 14; refine (HS2.out _).mono ?_; rintro e w7 ⟨rfl, b7'⟩)
          go_meet
          exact ⟨rfl, b5.trans (b7'.mono b5.size)⟩
        · obtain ⟨y1, y2, x1, f1, f2, f3⟩ := fixedI_full hf tail
          have hf2 : (fixedI x y).toList.isEmpty = false := by
            cases h : (fixedI x y).toList with
            | nil => exact absurd h hf
            | cons => rfl
          generalize fixedI x y = f at *
          have HS2 := Lib.hid HS
          clear HS
          go_wp2_with (go_at_call 14; refine (HS2.out _).mono ?_; rintro e w7 ⟨rfl, b7'⟩)
          go_meet
          exact ⟨rfl, b5.trans (b7'.mono b5.size)⟩
      case rest =>
        obtain ⟨rfl, b6⟩ := hcut
        clear b4 b5 hfs
        go_wp2_with fail
        refine (impl_EncodeHex tail (by omega) _).mono ?_
        rintro e w7 ⟨rfl, b7'⟩
        have b7 := b6.trans (b7'.mono b6.size)
        have hsz := hexS_size tail
        go_wp2_with fail
        refine (impl_DecodeHex (hexS tail) (by omega) _).mono ?_
        rintro e w8 ⟨rfl, b8'⟩
        have b8 := b7.trans (b8'.mono b7.size)
        have T8 := Lib.hid (HT.out _ b8)
        rw [hexS_round, hexS_ok]
        go_wp2_with fail
        refine (impl_FormatInt x hx0 hx1 _ T8.out).mono ?_
        rintro e w9 ⟨rfl, b9'⟩
        have b9 := b8.trans (b9'.mono b8.size)
        have T9 := Lib.hid (HT.out _ b9)
        go_wp2_with fail
        refine (impl_ParseInt (fmtI x) (fmtI_size hx0 hx1) _ T9.out).mono ?_
        rintro e w10 ⟨rfl, b10'⟩
        have b10 := b9.trans (b10'.mono b9.size)
        clear b6 b7 b7' b8 b8' b9 b9' b10'
        have hsz' : ((hexS tail).size : Int) = 2 * (tail.size : Int) := by omega
        clear hsz
        rcases (by omega : x ≤ -1000000000 ∨ 1000000000 ≤ x ∨ (-1000000000 < x ∧ x < 1000000000)) with hx | hx | ⟨hxa, hxb⟩
        · have hp := parse_big (n := x) (.inl hx)
          rw [hp]
          go_wp2_with (go_at_call 19; refine (spec_FormatInt x hx0 hx1 _).mono ?_; rintro e w11 ⟨rfl, b11'⟩)
          go_ret
          exact ⟨rfl, b10.trans (b11'.mono b10.size)⟩
        · have hp := parse_big (n := x) (.inr hx)
          have hx2 : decide (x < 1000000000) = false := decide_eq_false (by omega)
          have hx3 : ¬ x < 1000000000 := by omega
          rw [hp]
          go_wp2_with (go_at_call 19; refine (spec_FormatInt x hx0 hx1 _).mono ?_; rintro e w11 ⟨rfl, b11'⟩)
          go_ret
          exact ⟨rfl, b10.trans (b11'.mono b10.size)⟩
        · obtain ⟨hp1, hp2⟩ := parse_small hxa hxb
          rw [hp1, hp2]
          go_wp2_with (go_at_call 19; refine (spec_FormatInt x hx0 hx1 _).mono ?_; rintro e w11 ⟨rfl, b11'⟩)
          go_ret
          exact ⟨rfl, b10.trans (b11'.mono b10.size)⟩

theorem contract (H : Type) (enc : TypeId × Value → H) (W : World) (base : Nat) (args : Array Value) (ds gs : List (DataW H)) (before : List MemPlace)
    (hval : ∀ (j : Nat) t v, Tryd.f3.params[j]? = some t → args[j]? = some v → Value.okWide Tryd.prog W .any base t v)
    (hW : DataW.Whole enc Tryd.prog Tryd.f3.params.toList Rows.fnIntegerEncodingsSpec.vars false W args.toList ds gs before) (hL : laidMetH Tryd.prog Rows.fnIntegerEncodingsRow.laid W) :
    Calls Tryd.prog 3 args W fun e W' => ∃ v, e = .returned v ∧ Rows.fnIntegerEncodingsSpec.post enc Tryd.prog Tryd.f3 false true false false W args v W' := by
  have hW' := hW
  obtain ⟨p, q, hA0, hV, rfl, hfz, hnd⟩ := hW
  have hA : DataW.TrodAll enc Tryd.prog W 0 (fun _ => true) true Tryd.f3.params.toList args.toList ds p := hA0
  rw [Tryd.params3] at hA hval
  obtain ⟨v0, vs0, d0, ds0, p0, q0, hargs, rfl, rfl, h0, r0⟩ := trodAll_cons hA
  obtain ⟨rfl, rfl, rfl⟩ := trodAll_nil r0
  obtain rfl : args = #[v0] := by cases args; simp_all
  obtain ⟨rfl, rfl⟩ := trodVars_none hV
  obtain ⟨a0, l0, c0, rfl⟩ := okWide_slice Tryd.underlying22 (hval 0 22 v0 rfl rfl)
  have k0 := h0
  have lt0 : ∀ x ∈ p0, x.block < W.heap.size := by obtain ⟨m, hm⟩ := k0; exact DataW.trod_lt m _ _ _ hm
  have w0 : CodeIn W.heap.size W a0 l0 := by
    obtain ⟨fuel, hf⟩ := h0
    rcases open_ints Tryd.underlying22 Tryd.underlying5 (by kernel_rfl) hf with ⟨hcs, _⟩ | ⟨x, l, c, zs, hcs, _, hl, hm, hz, _, hcell, hwz⟩
    · simp [Value.cells] at hcs
      exact .inl hcs.2.1
    · simp [Value.cells] at hcs
      obtain ⟨rfl, rfl, rfl⟩ := hcs
      exact code_of x _ _ zs hl (by simpa using hz) hcell hwz
  clear hA0
  simp only [List.append_nil] at hW'
  refine (walk W (table hL) a0 l0 c0 w0).mono fun e W' ⟨he, hg⟩ => ?_
  subst he
  exact ⟨_, rfl, _, _, _, [], _, [], hW', (trodAll_cons_mk (shut_bool Tryd.underlying4 _) trodAll_mk0), (trodAll_cons_mk (Below.trod laidOut (by kernel_rfl) (of_decide_eq_true (by kernel_rfl)) k0 hg lt0) trodAll_mk0), rfl, hg.frame _, fun h => by cases h⟩

set_option maxRecDepth 100000 in
theorem laid_met (os : Os) : laidMet Tryd.prog Rows.fnIntegerEncodingsRow.laid ((laidWorld os).forCall (fun _ _ => 0) ⟨#[], #[.slice none 0 0], []⟩).memory :=
  laidMet_of_run' 8 (by kernel_rfl) (by kernel_rfl)
theorem reads (os : Os) {H : Type} (enc : TypeId × Value → H) : ∃ places, DataW.whole enc Tryd.prog ((laidWorld os).forCall (fun _ _ => 0) ⟨#[], #[.slice none 0 0], []⟩).memory Tryd.f3.params.toList Rows.fnIntegerEncodingsSpec.vars false (#[.slice none 0 0] : Array Value).toList 8 = some ([.nil], [], places) :=
  ⟨[], by kernel_rfl⟩

set_option maxRecDepth 100000 in
theorem lifted (os : Os) (started : os.Started) (H : Type) (enc : TypeId × Value → H) (F : Stop.Interp) :
    ReturnsInHanded {} Tryd.checked os 3 .any ((OpenSpec.ofChange Rows.fnIntegerEncodingsSpec).preRow enc Tryd.prog Tryd.f3 Rows.fnIntegerEncodingsRow.domain false Rows.fnIntegerEncodingsRow.laid) (((OpenSpec.ofChange Rows.fnIntegerEncodingsSpec).at F).post enc Tryd.prog Tryd.f3 false true false false) := by
  obtain ⟨places, hx⟩ := reads os enc
  refine returnsInHanded_of_row (C := Tryd.checked) (s := OpenSpec.ofChange Rows.fnIntegerEncodingsSpec) own started (by kernel_rfl) Tryd.func3
    (witness_row_at (enc := enc) (C := Tryd.checked) false (laidWorld os) #[.slice none 0 0] rfl (by kernel_rfl) (by kernel_rfl) (by kernel_rfl)
      (OpenSpec.preRow_of_cond 8 hx (by kernel_rfl) (fun k hk => by cases hk) (by kernel_rfl) (laid_met os))) ?_
  intro W base args ds gs before hval hW _ _ _ hL _ _
  exact contract H enc W base args ds gs before hval hW hL

theorem said : Rows.FnIntegerEncodingsSaid :=
  OpenClaim.holds_of_cond 3 Tryd.f3 rfl rfl rfl rfl rfl rfl rfl ⟨rfl, rfl, rfl, rfl, rfl⟩ rfl rfl rfl rfl rfl (by kernel_rfl) Tryd.func3 (by kernel_rfl)
    (of_decide_eq_true (by kernel_rfl)) (by unfold Func.isWrapper; first | (rw [if_pos (by decide +kernel)]; kernel_rfl) | (rw [if_neg (by decide +kernel)]; exact ⟨rfl, rfl⟩))
    (fun os started H enc _ F => by rw [OpenClaim.pre_eq_preRow]; exact lifted os started H enc F)

theorem plain (f : FuncId) (fn : Func) (hf : Tryd.pinned.checked.prog.funcNamed "loop.example/g01989/laws.FnIntegerEncodings" = some f) (hfn : Tryd.pinned.checked.prog.funcs[f]? = some fn) :
    false = Tryd.pinned.checked.prog.looks [] ∧ ∀ (j : Nat) t, fn.params[j]? = some t → Tryd.pinned.checked.prog.wantsStandIn t = false := by
  obtain rfl : f = 3 := Option.some.inj ((show Tryd.prog.funcNamed "loop.example/g01989/laws.FnIntegerEncodings" = some 3 by kernel_rfl).symm.trans hf) |>.symm
  obtain rfl : fn = Tryd.f3 := (Option.some.inj (Tryd.func3.symm.trans hfn)).symm
  refine ⟨by kernel_rfl, fun j t ht => ?_⟩
  rw [Tryd.params3] at ht
  obtain rfl : t = 22 := by simpa using Array.mem_of_getElem? ht
  exact (show Tryd.prog.wantsStandIn 22 = false by kernel_rfl)
end Go.Proofs.YtnngpppfagiikaaDoor.fnIntegerEncodings
namespace Go.Proofs.YtnngpppfagiikaaDoor
theorem fnIntegerEncodings_card : Rows.FnIntegerEncodingsCardSaid :=
  Claim7.holds_tied_plain_at .later [] _ _ _ _ fnIntegerEncodings.said (fun _ h => by cases h) (by kernel_rfl) (fun _ h => by cases h) fnIntegerEncodings_row_tie rfl ⟨rfl, rfl⟩ (by kernel_rfl) rfl fnIntegerEncodings.plain (by kernel_rfl)
#print axioms fnIntegerEncodings_card
end Go.Proofs.YtnngpppfagiikaaDoor
