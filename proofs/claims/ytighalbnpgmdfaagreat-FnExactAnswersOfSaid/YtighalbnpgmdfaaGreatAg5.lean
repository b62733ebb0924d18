/- Arrays of three numbers as keys of a map. Conditions: none beyond each theorem's own. A drawn region by an invariant over what is listed. Conditions: none beyond each theorem's own. Own rows of numbers in a drawn region. Conditions: none beyond each theorem's own. -/
import Derived.Test.YtighalbnpgmdfaaGreatHd
import Derived.Test.YtighalbnpgmdfaaGreatAg4
import Derived.WideKeyArr2
import Derived.DeepKeys4
import Derived.RegionTactic
import Derived.Test.YtighalbnpgmdfaaGreatMchS

namespace Go.Proofs.YtighalbnpgmdfaaGreat
open Go.ChangeShapes Go.WideShapes Go.ChangeAt Go.RowKit Go.Sort
open Go.Maps (Keyed int_keyed keyOf_int_mk)
open Go.WideMaps (ArrKey)
set_option linter.unusedVariables false
set_option linter.unusedSimpArgs false

set_option maxRecDepth 100000 in
theorem arr3 : ArrKey Tryz.prog 68 3 3 := ⟨Tryz.underlying68, by kernel_rfl, by kernel_rfl, by kernel_rfl⟩
theorem lawK : Keyed Tryz.prog 68 := Keyed.of_law arr3.law
set_option maxRecDepth 100000 in
theorem types_some : ∃ m, Tryz.prog.types.size = m + 1 := ⟨Tryz.prog.types.size - 1, by kernel_rfl⟩
theorem keyOf_trip {a b c : Int} (wa : wf a) (wb : wf b) (wc : wf c) : ∃ kl, keyOf Tryz.prog 68 (.agg #[.int .i64 a, .int .i64 b, .int .i64 c]) = some kl := by
  have A := arr3
  have he := Tryz.underlying3
  have hkt := A.keyType types_some
  obtain ⟨m, hm⟩ := types_some
  refine ⟨.string (keyBytes [.int .i64 a, .int .i64 b, .int .i64 c]), ?_⟩
  unfold keyOf
  simp only [A.hu]
  rw [if_pos (by simp [hkt, Value.formed, A.hu, A.size]), hm]
  unfold Program.keyLits
  simp only [A.hu, Value.cells]
  rw [if_pos (by rw [A.size]; rfl), show List.range 3 = [0, 1, 2] from rfl, List.mapM_cons, List.mapM_cons, List.mapM_cons, List.mapM_nil]
  simp [A.one, Program.keyLits, he, wa, wb, wc]
theorem keyLits_int {d : Nat} {v : Value} {ls : List Lit} (h : Tryz.prog.keyLits d 3 [v] = some ls) : ∃ a : Int, v = .int .i64 a ∧ wf a := by
  have he := Tryz.underlying3
  cases d with
  | zero => simp [Program.keyLits] at h
  | succ d =>
    unfold Program.keyLits at h
    simp only [he] at h
    cases v
    all_goals try (simp at h; done)
    rename_i k n
    simp only [Option.ite_none_right_eq_some] at h
    obtain ⟨⟨rfl, h2⟩, _⟩ := h
    exact ⟨n, rfl, h2⟩
set_option maxRecDepth 100000 in
theorem keyOf_inv {key : Value} {kl : Lit} (h : keyOf Tryz.prog 68 key = some kl) : ∃ a b c : Int, key = .agg #[.int .i64 a, .int .i64 b, .int .i64 c] ∧ wf a ∧ wf b ∧ wf c := by
  have A := arr3
  unfold keyOf at h
  simp only [A.hu] at h
  split at h
  · rename_i hf
    rw [Bool.and_eq_true] at hf
    replace hf := hf.2
    unfold Value.formed at hf
    simp only [A.hu] at hf
    cases key
    all_goals try (simp at hf; done)
    rename_i cs
    have hs : cs.size = 3 := by rw [A.size] at hf; simpa using hf
    obtain ⟨l⟩ := cs
    match l, hs with
    | [x, y, z], _ =>
      obtain ⟨ls, h1, _⟩ := Option.map_eq_some_iff.1 h
      obtain ⟨m, hm⟩ := types_some
      rw [hm] at h1
      unfold Program.keyLits at h1
      simp only [A.hu, Value.cells] at h1
      rw [if_pos (by rw [A.size]; rfl), show List.range 3 = [0, 1, 2] from rfl, List.mapM_cons, List.mapM_cons, List.mapM_cons, List.mapM_nil] at h1
      obtain ⟨l2, h2, _⟩ := Option.map_eq_some_iff.1 h1
      simp only [A.one, bind, Option.bind_eq_some_iff] at h2
      obtain ⟨r0, q0, _, ⟨r1, q1, _, ⟨r2, q2, _⟩, _⟩, _⟩ := h2
      obtain ⟨a, rfl, wa⟩ := keyLits_int (v := x) q0
      obtain ⟨b, rfl, wb⟩ := keyLits_int (v := y) q1
      obtain ⟨c, rfl, wc⟩ := keyLits_int (v := z) q2
      exact ⟨a, b, c, rfl, wa, wb, wc⟩
  · cases h
/-- The key of a list of three numbers at most. -/
noncomputable def ky (l : List Int) : Lit := (keyOf Tryz.prog 68 (.agg (hd3 l))).getD .nil
theorem wf_dig {x : Int} (h : 0 ≤ x ∧ x ≤ 9) : wf x := by
  show (Lit.int .i64 x).wf = true
  exact WalkArith.wf_i64 ⟨by omega, by omega⟩
theorem ky_of {l : List Int} (h : allB 0 9 l = true) : keyOf Tryz.prog 68 (.agg (hd3 l)) = some (ky l) := by
  have d := dig_at h
  obtain ⟨kl, hk⟩ := keyOf_trip (wf_dig (d 0)) (wf_dig (d 1)) (wf_dig (d 2))
  have e : keyOf Tryz.prog 68 (.agg (hd3 l)) = some kl := hk
  unfold ky
  rw [e]
  rfl
theorem hd3_inj {l l' : List Int} {n : Nat} (h1 : l.length = n) (h2 : l'.length = n) (hn : n ≤ 3) (h : hd3 l = hd3 l') : l = l' := by
  unfold hd3 at h
  injection h with h
  injection h with a0 h
  injection h with a1 h
  injection h with a2 _
  injection a0 with _ a0
  injection a1 with _ a1
  injection a2 with _ a2
  refine List.ext_getElem (by omega) fun k k1 k2 => ?_
  have g1 : l[k] = l.getD k 0 := by simp [List.getD_eq_getElem?_getD, k1]
  have g2 : l'[k] = l'.getD k 0 := by simp [List.getD_eq_getElem?_getD, k2]
  rw [g1, g2]
  obtain rfl | rfl | rfl : k = 0 ∨ k = 1 ∨ k = 2 := by omega
  · exact a0
  · exact a1
  · exact a2
set_option maxRecDepth 100000 in
theorem ky_inj {l l' : List Int} {n : Nat} (h1 : l.length = n) (h2 : l'.length = n) (hn : n ≤ 3) (d1 : allB 0 9 l = true) (d2 : allB 0 9 l' = true) (h : ky l = ky l') : l = l' := by
  have e := lawK.inj (ky_of d1) (by rw [h]; exact ky_of d2)
  injection e with e
  exact hd3_inj h1 h2 hn e
end Go.Proofs.YtighalbnpgmdfaaGreat

namespace Go.Proofs.YtighalbnpgmdfaaGreat
set_option linter.unusedVariables false
set_option linter.unusedSimpArgs false

section
variable {P : Program} {ops : Array Oper} {Q : Exit → Act → World → Prop} {md : Region.Mode}

/-- Every binding edge leads back. -/
def backB (md : Region.Mode) (ops : Array Oper) : Bool :=
  (List.range ops.size).all fun i => ((ops[i]?).map (·.after.all fun e => !Region.binds md e || decide (e.on < i))).getD true

theorem getD_flip {l : Array Bool} {i : Nat} (h : i < l.size) (a b : Bool) : l.getD i a = l.getD i b := by
  rw [Array.getD_eq_getD_getElem?, Array.getD_eq_getD_getElem?, Array.getElem?_eq_getElem h]
  rfl

theorem ready_mem {listed : Array Bool} {i : Nat} : i ∈ Region.ready md ops listed ↔ i < ops.size ∧ listed.getD i true = false ∧ ∃ o, ops[i]? = some o ∧ o.after.all (fun e => !Region.binds md e || listed.getD e.on false) = true := by
  unfold Region.ready
  rw [List.mem_filter, List.mem_range]
  refine ⟨fun ⟨h, h2⟩ => ?_, fun ⟨h, h2, o, h3, h4⟩ => ⟨h, ?_⟩⟩
  · rw [Bool.and_eq_true] at h2
    obtain ⟨h2, h3⟩ := h2
    refine ⟨h, by simpa using h2, ops[i], Array.getElem?_eq_getElem h, ?_⟩
    rw [Array.getElem?_eq_getElem h] at h3
    exact h3
  · rw [h2, h3, Bool.and_eq_true]
    exact ⟨rfl, h4⟩

theorem ready_lt {listed : Array Bool} {i : Nat} (h : i ∈ Region.ready md ops listed) : i < ops.size := (ready_mem.1 h).1
theorem ready_new {listed : Array Bool} {i : Nat} (h : i ∈ Region.ready md ops listed) (hz : listed.size = ops.size) : listed.getD i false = false := by
  rw [getD_flip (hz ▸ ready_lt h) false true]
  exact (ready_mem.1 h).2.1

/-- i waits for j. -/
def waits (md : Region.Mode) (ops : Array Oper) (i j : Nat) : Bool := ((ops[i]?).map (·.after.any fun e => Region.binds md e && e.on == j)).getD false
theorem waits_spec {i j : Nat} (h : waits md ops i j = true) : ∃ o, ops[i]? = some o ∧ ∃ e ∈ o.after, Region.binds md e = true ∧ e.on = j := by
  unfold waits at h
  cases ho : ops[i]? with
  | none => rw [ho] at h; simp at h
  | some o =>
    rw [ho] at h
    simp only [Option.map_some, Option.getD_some] at h
    obtain ⟨e, he, hb⟩ := Array.any_eq_true'.1 h
    simp only [Bool.and_eq_true, beq_iff_eq] at hb
    exact ⟨o, rfl, e, he, hb.1, hb.2⟩
theorem ready_dep {listed : Array Bool} {i : Nat} (h : i ∈ Region.ready md ops listed) {j : Nat} (hw : waits md ops i j = true) : listed.getD j false = true := by
  obtain ⟨_, _, o, ho, ha⟩ := ready_mem.1 h
  obtain ⟨o', ho', e, he, hb, rfl⟩ := waits_spec hw
  rw [ho] at ho'
  cases ho'
  have := Array.all_eq_true'.1 ha e he
  simpa [hb] using this

theorem ready_all (hb : backB md ops = true) {listed : Array Bool} (hz : listed.size = ops.size) (hr : Region.ready md ops listed = []) : ∀ i, i < ops.size → listed.getD i false = true := by
  intro i
  induction i using Nat.strongRecOn with
  | ind i ih =>
    intro hi
    cases hl : listed.getD i false with
    | true => rfl
    | false =>
      have hm : i ∈ Region.ready md ops listed := by
        refine ready_mem.2 ⟨hi, by rw [getD_flip (hz ▸ hi) true false, hl], ops[i], Array.getElem?_eq_getElem hi, ?_⟩
        refine Array.all_eq_true'.2 fun e he => ?_
        have h1 := List.all_eq_true.1 hb i (List.mem_range.2 hi)
        rw [Array.getElem?_eq_getElem hi] at h1
        have h2 := Array.all_eq_true'.1 h1 e he
        cases hbi : Region.binds md e with
        | false => rfl
        | true =>
          rw [hbi] at h2
          have h3 : e.on < i := by simpa using h2
          rw [ih e.on h3 (by omega)]
          rfl
      rw [hr] at hm
      cases hm

/-- What is listed holds what it waits for. -/
def Closed (md : Region.Mode) (ops : Array Oper) (listed : Array Bool) : Prop := ∀ i j, listed.getD i false = true → waits md ops i j = true → listed.getD j false = true
theorem getD_set_true {l : Array Bool} {i j : Nat} (h : l.getD j false = true) : (l.setIfInBounds i true).getD j false = true := by
  rw [Array.getD_eq_getD_getElem?] at h ⊢
  rw [Array.getElem?_setIfInBounds]
  split
  · split
    · rfl
    · rename_i e h2
      subst e
      rw [Array.getElem?_eq_none (by omega)] at h
      simp at h
  · exact h
theorem getD_set {l : Array Bool} {i j : Nat} (hi : i < l.size) : (l.setIfInBounds i true).getD j false = (if i = j then true else l.getD j false) := by
  rw [Array.getD_eq_getD_getElem?, Array.getElem?_setIfInBounds]
  split
  · rfl
  · rw [Array.getD_eq_getD_getElem?]
theorem Closed.set {listed : Array Bool} (h : Closed md ops listed) (hz : listed.size = ops.size) {i : Nat} (hi : i ∈ Region.ready md ops listed) : Closed md ops (listed.setIfInBounds i true) := by
  intro k j hk hw
  rw [getD_set (hz ▸ ready_lt hi)] at hk
  split at hk
  · rename_i e
    subst e
    exact getD_set_true (ready_dep hi hw)
  · exact getD_set_true (h k j hk hw)
theorem Closed.none (n : Nat) : Closed md ops (Array.replicate n false) := by
  intro k j hk _
  rw [Array.getD_eq_getD_getElem?] at hk
  by_cases h : k < n
  · simp [h] at hk
  · simp [Array.getElem?_eq_none (show (Array.replicate n false).size ≤ k by simp; omega)] at hk

theorem cnt_set {l : Array Bool} {i : Nat} (h : i < l.size) (hf : l.getD i true = false) : (l.setIfInBounds i true).toList.count false + 1 = l.toList.count false := by
  have he : l.toList[i]'(by simpa using h) = false := by
    rw [Array.getD_eq_getD_getElem?, Array.getElem?_eq_getElem h] at hf
    simpa using hf
  rw [Array.toList_setIfInBounds, List.count_set (by simpa using h), he]
  have : 0 < l.toList.count false := List.count_pos_iff.2 (he ▸ List.getElem_mem _)
  have h1 : (false == false) = true := rfl
  have h2 : (true == false) = false := rfl
  rw [if_pos h1, h2, if_neg (by decide)]
  omega

theorem wpAny_inv (hb : backB md ops = true) (I : Array Bool → Act → World → Prop)
    (hstep : ∀ listed a w i, i ∈ Region.ready md ops listed → listed.size = ops.size → Closed md ops listed → I listed a w → wpOp P ops Q i (fun a' w' => I (listed.setIfInBounds i true) a' w') a w)
    (hdone : ∀ listed a w, listed.size = ops.size → (∀ i, i < ops.size → listed.getD i false = true) → I listed a w → Q .normal a w) :
    ∀ (fuel : Nat) (listed : Array Bool) (a : Act) (w : World), listed.size = ops.size → Closed md ops listed → listed.toList.count false ≤ fuel → I listed a w → wpAny P md ops Q fuel listed a w := by
  intro fuel
  induction fuel with
  | zero =>
    intro listed a w hz hc hn hI
    have hr : Region.ready md ops listed = [] := by
      refine List.eq_nil_iff_forall_not_mem.2 fun i hi => ?_
      have := cnt_set (hz ▸ ready_lt hi) (ready_mem.1 hi).2.1
      omega
    exact ⟨hr, hdone _ _ _ hz (ready_all hb hz hr) hI⟩
  | succ fuel ih =>
    intro listed a w hz hc hn hI
    refine ⟨fun hr => hdone _ _ _ hz (ready_all hb hz hr) hI, fun i hi => ?_⟩
    refine wpOp_mono (fun a' w' h' => ?_) (hstep listed a w i hi hz hc hI)
    refine ih _ _ _ (by rw [Array.size_setIfInBounds]; exact hz) (hc.set hz hi) ?_ h'
    have := cnt_set (hz ▸ ready_lt hi) (ready_mem.1 hi).2.1
    omega

theorem wp_region_inv {id : Nat} {a : Act} {w : World} (hm : P.follows .mixedOrders = true) (hb : backB .any ops = true) (I : Array Bool → Act → World → Prop)
    (h0 : I (Array.replicate ops.size false) a (World.drew w))
    (hstep : ∀ listed a w i, i ∈ Region.ready .any ops listed → listed.size = ops.size → Closed .any ops listed → I listed a w → wpOp P ops Q i (fun a' w' => I (listed.setIfInBounds i true) a' w') a w)
    (hdone : ∀ listed a w, listed.size = ops.size → (∀ i, i < ops.size → listed.getD i false = true) → I listed a w → Q .normal a w) :
    (Code.region id ops true).wp P Q a w := by
  refine wp_region_any hm ?_
  refine wpAny_inv hb I hstep hdone _ _ _ _ (by simp) (Closed.none _) ?_ h0
  refine Nat.le_trans List.count_le_length ?_
  simp
end
end Go.Proofs.YtighalbnpgmdfaaGreat

namespace Go.Proofs.YtighalbnpgmdfaaGreat
open Go.ChangeShapes Go.WideShapes Go.ChangeAt Go.RowKit Go.Sort
open Go.Maps (Keyed int_keyed keyOf_int_mk)
set_option linter.unusedVariables false
set_option linter.unusedSimpArgs false

/-- A row of the call's own that holds the numbers xs. -/
def RowV (w : World) (base : Nat) (v : Value) (xs : List Int) : Prop := w.ownsRow base 3 1 v xs.length (xs.map (Value.int .i64))
theorem RowV.form {w : World} {base : Nat} {v : Value} {xs : List Int} (h : RowV w base v xs) : ∃ X c, v = .slice X xs.length c := by
  rcases h.2 with ⟨hv, h0⟩ | ⟨_, _, _, hv, _⟩
  · have : xs.length = 0 := by simpa using h0
    exact ⟨none, 0, by rw [hv, this]⟩
  · exact ⟨_, _, hv⟩
theorem RowV.below {w w' : World} {base : Nat} {v : Value} {xs : List Int} (h : RowV w base v xs) (hb : Below w.heap.size w w') : RowV w' base v xs := ownsRow_below h hb
theorem RowV.kept {w w' : World} {base : Nat} {v : Value} {xs : List Int} {row : Option Nat} (h : RowV w base v xs) (hg : w.grownBy w' row) (hne : v.ownBlock = none ∨ v.ownBlock ≠ row) : RowV w' base v xs := World.ownsRow.kept h hg hne
theorem RowV.mono {w : World} {base base' : Nat} {v : Value} {xs : List Int} (h : RowV w base v xs) (hb : base' ≤ base) : RowV w base' v xs := by
  refine ⟨h.1, ?_⟩
  rcases h.2 with hn | ⟨k, cap, cur, hv, hbk, r⟩
  · exact .inl hn
  · exact .inr ⟨k, cap, cur, hv, by omega, r⟩
theorem rows_apart {w w' : World} {b1 b2 : Nat} {v1 v2 : Value} {xs ys : List Int} (h1 : RowV w b1 v1 xs) (h2 : RowV w' b2 v2 ys) (hle : w.heap.size ≤ b2) : v1.ownBlock = none ∨ v1.ownBlock ≠ v2.ownBlock := by
  cases e : v1.ownBlock with
  | none => exact .inl rfl
  | some k =>
    refine .inr fun e2 => ?_
    have h3 := World.ownsRow.lt h1 k e
    have h4 := World.ownsRow.lt h2 k e2.symm
    omega
theorem RowV.set {w : World} {base g i : Nat} {v u : Value} {xs : List Int} {bx : Array Value} {t : TypeId} (h : RowV w base v xs) (hb : Box w g bx t) (ht : t ≠ 3) : RowV (w.setCell ⟨g, i, none⟩ u) base v xs := by
  refine ⟨h.1, ?_⟩
  rcases h.2 with hn | ⟨k, cap, cur, hv, hbk, hk, r⟩
  · exact .inl hn
  · refine .inr ⟨k, cap, cur, hv, hbk, ?_, r⟩
    rw [Below.heap_setCell _ _ _ _ (fun e => by
      have e' : k = g := e
      unfold Box at hb
      rw [e', hb] at hk
      injection hk with hk
      injection hk with _ h2
      exact ht h2)]
    exact hk

set_option maxRecDepth 100000 in
set_option maxHeartbeats 400000 in
theorem clone_row (A : Option Addr) (c : Nat) (xs : List Int) (hl : xs.length ≤ 1048576) (w : World) (h : RI w A xs) :
    Calls Tryz.prog 71 #[.slice A xs.length c] w fun e w' => ∃ X c', e = .returned (.slice X xs.length c') ∧ RowV w' w.heap.size (.slice X xs.length c') xs ∧ Below w.heap.size w w' := by
  obtain ⟨i0, hi, hz0, hz1, hz2⟩ := info_parts int_info
  have hq := fun (W : World) (n c : Nat) => Lib.run_eql_slice_nil (P := Tryz.prog) W 22 3 A n c 0 0 Tryz.underlying22
  rcases A with _ | ad
  · have hx0 : xs = [] := by
      rcases xs with _ | ⟨y, ys⟩
      · rfl
      · obtain ⟨b, off, h1, _⟩ := h (by simp)
        cases h1
    subst hx0
    go_enter Tryz.func71, Tryz.ntmps71
    go_wp2
    go_ret
    exact ⟨none, 0, rfl, World.ownsRow_nil _ _ _ _, Below.refl _ _⟩
  · have HI := Lib.hid (h.step (below_alloc w (.cells #[] 3)))
    clear h
    go_enter Tryz.func71, Tryz.ntmps71
    go_wp2_with (at_builtin; refine wpList_append_nums rfl _ _ 22 rfl w.heap.size 3 i0 Tryz.underlying22 hi hz0 hz1 hz2 (.slice (some ⟨w.heap.size, 0, none⟩) 0 0) 0 [] rfl (World.ownsRow_lit _ #[] 0 (Nat.le_refl _) (by unfold maxLen; omega) rfl) _ _ (some ad) c xs rfl HI.out (by omega) (by simp) ?_; intro v' w' hown hg hat
                 have hown' : RowV w' w.heap.size v' xs := by simpa [RowV] using hown
                 obtain ⟨A2, c2, rfl⟩ := hown'.form
                 have HV := Lib.hid hown'
                 have HG := Lib.hid hg
                 clear hown hown' hg hat)
    go_ret
    exact ⟨_, _, rfl, HV.out, (below_alloc w _).grown HG.out (by simp) (fun k hk => Nat.le_of_eq (by simpa [Value.ownBlock] using hk))⟩

/-- What a row holds reads as numbers. -/
theorem ri_of_row {w : World} {base : Nat} {A : Option Addr} {n c : Nat} {xs : List Int} (h : RowV w base (.slice A n c) xs) : RI w A xs := fun hx => by
  have hn : 0 < xs.length := List.length_pos_iff.2 hx
  rcases h.2 with ⟨hv, h0⟩ | ⟨g, cap, cur, hv, hbk, hk, _⟩
  · omega
  · injection hv with e1 e2 e3
    subst e1 e2 e3
    refine ⟨g, 0, rfl, Nat.zero_le _, (Array.getElem?_eq_some_iff.1 hk).1, fun j hj => ?_⟩
    rw [Nat.zero_add, World.ownsRow.cellAt h j (by omega), List.getElem?_map]
    simp [List.getD_eq_getElem?_getD, hj]

theorem opwp_append_nums {P : Program} {w : World} {o : Oper} {a : Act} {K : Act → World → Prop} {Q : Exit → Act → World → Prop} (s x : Operand) (t : TypeId)
    (ho : o.op = .call { callee := .builtin .append, args := #[s, x], argTypes := #[t, t] })
    (base : Nat) (e : TypeId) (i : TypeInfo) (ht : P.underlying t = some (.slice e)) (hi : P.info? e = some i) (hz : i.zero = some (.int .i64 0)) (hz1 : i.size = 1) (hz2 : i.bytes = 8)
    (v : Value) (n : Nat) (cs : List Value) (hs : a.eval s = v) (hown : w.ownsRow base e 1 v n cs) (lo hi' : Nat) (A : Option Addr) (c : Nat) (xs : List Int) (hx : a.eval x = .slice A xs.length c) (hr : Ints w lo hi' A xs)
    (hn : n + xs.length ≤ 17592186044416) (hbase : base ≤ w.heap.size)
    (h : ∀ v' w', w'.ownsRow base e 1 v' (n + xs.length) (cs ++ xs.map (Value.int .i64)) → w.grownBy w' v.ownBlock → (v'.ownBlock = v.ownBlock ∨ v'.ownBlock = some w.heap.size) → K (a.put o.dst v') w') :
    Oper.wp P o a w K Q := by
  rcases A with _ | ad
  · have hx0 : xs = [] := by
      rcases xs with _ | ⟨y, ys⟩
      · rfl
      · obtain ⟨b, off, h1, _⟩ := hr (by simp)
        cases h1
    subst hx0
    have hrun : (Builtin.append_ #[t, t] o.type #[v, .slice none 0 c]).run P w = .ok v w := by
      rcases hown.2 with ⟨rfl, rfl⟩ | ⟨g, cap, cur, rfl, _, _, hnc, _⟩
      · simp [Builtin.append_, run_underlying ht, sizeOf, typeInfo, hi, Builtin.lenOf, Builtin.firstCells]
      · simp [Builtin.append_, run_underlying ht, sizeOf, typeInfo, hi, Builtin.lenOf, Builtin.firstCells, hnc, storeCells]
    unfold Oper.wp execOp
    simp only [List.length_nil] at hx
    simp only [ho, resolve, invoke, builtin, Sem.run_bind, Sem.run_pure, Result.andThen_ok, List.map_toArray, List.map_cons, List.map_nil, hs, hx, hrun]
    exact h v w (by simpa using hown) (World.grownBy.refl w _) (.inl rfl)
  · obtain ⟨v', w', hr', h2, h3, h4, h5⟩ := run_append_own_at (P := P) w base t o.type e i (.int .i64 0) 1 8 ht hi hz hz1 hz2 rfl (by omega) v n cs hown ad xs.length c (xs.map (Value.int .i64)) (by simp) (fun j u hj => by
      have hj' : j < xs.length := by have := (List.getElem?_eq_some_iff.1 hj).1; simpa using this
      obtain ⟨b, off, h1, _, _, h4⟩ := hr (by rintro rfl; simp at hj')
      injection h1 with h1
      subst h1
      rw [add_eq, h4 j hj']
      rw [List.getElem?_map, List.getElem?_eq_getElem hj'] at hj
      injection hj with hj
      subst hj
      simp [List.getD_eq_getElem?_getD, hj']) (fun u hu => by
      obtain ⟨y, _, rfl⟩ := List.mem_map.1 hu
      rfl) (by unfold maxLen; omega) (by omega) hbase
    unfold Oper.wp execOp
    simp only [ho, resolve, invoke, builtin, Sem.run_bind, Sem.run_pure, Result.andThen_ok, List.map_toArray, List.map_cons, List.map_nil, hs, hx, hr']
    exact h v' w' h2 h3 h5

/-- The same, of a row of numbers. -/
theorem opwp_append_row {w : World} {o : Oper} {a : Act} {K : Act → World → Prop} {Q : Exit → Act → World → Prop} (s x : Operand)
    (ho : o.op = .call { callee := .builtin .append, args := #[s, x], argTypes := #[22, 22] }) (base : Nat) (v : Value) (ys : List Int) (hs : a.eval s = v) (hown : RowV w base v ys)
    (A : Option Addr) (c : Nat) (xs : List Int) (hx : a.eval x = .slice A xs.length c) (hr : RI w A xs) (hn : ys.length + xs.length ≤ 17592186044416) (hbase : base ≤ w.heap.size)
    (h : ∀ v' w', RowV w' base v' (ys ++ xs) → w.grownBy w' v.ownBlock → (v'.ownBlock = v.ownBlock ∨ v'.ownBlock = some w.heap.size) → K (a.put o.dst v') w') :
    Oper.wp Tryz.prog o a w K Q := by
  obtain ⟨i0, hi, hz0, hz1, hz2⟩ := info_parts int_info
  refine opwp_append_nums s x 22 ho base 3 i0 Tryz.underlying22 hi hz0 hz1 hz2 v ys.length _ hs hown _ _ A c xs hx hr hn hbase ?_
  intro v' w' h1 h2 h3
  refine h v' w' ?_ h2 h3
  unfold RowV
  simpa using h1

def Apart (u v : Value) : Prop := u.ownBlock = none ∨ u.ownBlock ≠ v.ownBlock
theorem Apart.symm {u v : Value} (h : Apart u v) : Apart v u := by
  by_cases e : v.ownBlock = none
  · exact .inl e
  · rcases h with h | h
    · exact .inr (by rw [h]; exact e)
    · exact .inr (Ne.symm h)

def upd (T : Nat → Value) (i : Nat) (v : Value) : Nat → Value := fun k => if k = i then v else T k
theorem upd_same (T : Nat → Value) (i : Nat) (v : Value) : upd T i v i = v := if_pos rfl
theorem upd_ne {T : Nat → Value} {i k : Nat} {v : Value} (h : k ≠ i) : upd T i v k = T k := if_neg h

/-- The rows that are live lie apart. -/
structure OwnTs (w : World) (base : Nat) (L : Nat → Option (List Int)) (T : Nat → Value) : Prop where
  row : ∀ i xs, L i = some xs → RowV w base (T i) xs
  apart : ∀ i j xs ys, i ≠ j → L i = some xs → L j = some ys → Apart (T i) (T j)
theorem OwnTs.quiet {w w' : World} {base : Nat} {L L' : Nat → Option (List Int)} {T T' : Nat → Value} (h : OwnTs w base L T) (hb : Below w.heap.size w w') (hL : ∀ k xs, L' k = some xs → L k = some xs ∧ T' k = T k) : OwnTs w' base L' T' := by
  refine ⟨fun i xs hi => ?_, fun i j xs ys hij hi hj => ?_⟩
  · rw [(hL i xs hi).2]
    exact (h.row i xs (hL i xs hi).1).below hb
  · rw [(hL i xs hi).2, (hL j ys hj).2]
    exact h.apart i j xs ys hij (hL i xs hi).1 (hL j ys hj).1
theorem OwnTs.fresh {w w' : World} {base : Nat} {L L' : Nat → Option (List Int)} {T : Nat → Value} (h : OwnTs w base L T) (hb : Below w.heap.size w w') (hbase : base ≤ w.heap.size) {v : Value} {xs : List Int} (hv : RowV w' w.heap.size v xs) (i : Nat)
    (hL : ∀ k ys, L' k = some ys → (k = i ∧ xs = ys) ∨ (k ≠ i ∧ L k = some ys)) : OwnTs w' base L' (upd T i v) := by
  refine ⟨fun k ys hk => ?_, fun k j ys zs hkj hk hj => ?_⟩
  · rcases hL k ys hk with ⟨rfl, rfl⟩ | ⟨hne, hk'⟩
    · rw [upd_same]
      exact hv.mono hbase
    · rw [upd_ne hne]
      exact (h.row k ys hk').below hb
  · rcases hL k ys hk with ⟨rfl, rfl⟩ | ⟨hne, hk'⟩ <;> rcases hL j zs hj with ⟨rfl, rfl⟩ | ⟨hne', hj'⟩
    · exact absurd rfl hkj
    · rw [upd_same, upd_ne hne']
      exact Apart.symm (rows_apart (h.row j zs hj') hv (Nat.le_refl _))
    · rw [upd_same, upd_ne hne]
      exact rows_apart (h.row k ys hk') hv (Nat.le_refl _)
    · rw [upd_ne hne, upd_ne hne']
      exact h.apart k j ys zs hkj hk' hj'
theorem OwnTs.grow {w w' : World} {base : Nat} {L L' : Nat → Option (List Int)} {T : Nat → Value} (h : OwnTs w base L T) {v : Value} {xs zs : List Int} (k i : Nat) (hk : L k = some zs) (hv : RowV w' base v xs) (hg : w.grownBy w' (T k).ownBlock)
    (hat : v.ownBlock = (T k).ownBlock ∨ v.ownBlock = some w.heap.size) (hL : ∀ j ys, L' j = some ys → (j = i ∧ xs = ys) ∨ (j ≠ i ∧ j ≠ k ∧ L j = some ys)) : OwnTs w' base L' (upd T i v) := by
  have key : ∀ j ys, j ≠ k → L j = some ys → Apart (T j) v := by
    intro j ys hjk hj
    have h1 := h.apart j k ys zs hjk hj hk
    rcases h1 with h1 | h1
    · exact .inl h1
    · rcases hat with ha | ha
      · exact .inr (by rw [ha]; exact h1)
      · refine .inr fun e => ?_
        have := World.ownsRow.lt (h.row j ys hj) _ (e.trans ha)
        omega
  refine ⟨fun j ys hj => ?_, fun j l ys us hjl hj hl => ?_⟩
  · rcases hL j ys hj with ⟨rfl, rfl⟩ | ⟨hne, hnk, hj'⟩
    · rw [upd_same]
      exact hv
    · rw [upd_ne hne]
      exact (h.row j ys hj').kept hg (h.apart j k ys zs hnk hj' hk)
  · rcases hL j ys hj with ⟨rfl, rfl⟩ | ⟨hne, hnk, hj'⟩ <;> rcases hL l us hl with ⟨rfl, rfl⟩ | ⟨hne', hnk', hl'⟩
    · exact absurd rfl hjl
    · rw [upd_same, upd_ne hne']
      exact Apart.symm (key l us hnk' hl')
    · rw [upd_same, upd_ne hne]
      exact key j ys hnk hj'
    · rw [upd_ne hne, upd_ne hne']
      exact h.apart j l ys us hjl hj' hl'

/-- The rows that are live: made, and not yet used up. -/
def liveR (tab : Nat → Option (List Int)) (cons : Nat → Nat) (listed : Array Bool) (i : Nat) : Option (List Int) := if listed.getD i false = true ∧ listed.getD (cons i) false = false then tab i else none
theorem live_here {tab : Nat → Option (List Int)} {cons : Nat → Nat} {listed : Array Bool} {i : Nat} {xs : List Int} (h1 : listed.getD i false = true) (h2 : listed.getD (cons i) false = false) (h3 : tab i = some xs) : liveR tab cons listed i = some xs := by
  unfold liveR
  rw [if_pos ⟨h1, h2⟩, h3]
theorem live_set {tab : Nat → Option (List Int)} {cons : Nat → Nat} {listed : Array Bool} {i k : Nat} {ys : List Int} (hi : i < listed.size) (h : liveR tab cons (listed.setIfInBounds i true) k = some ys) :
    (k = i ∧ tab i = some ys) ∨ (k ≠ i ∧ cons k ≠ i ∧ liveR tab cons listed k = some ys) := by
  unfold liveR at h
  split at h
  · rename_i hc
    obtain ⟨h1, h2⟩ := hc
    rw [getD_set hi] at h1 h2
    by_cases e : i = k
    · subst e
      exact .inl ⟨rfl, h⟩
    · by_cases e2 : i = cons k
      · rw [if_pos e2] at h2
        cases h2
      · rw [if_neg e] at h1
        rw [if_neg e2] at h2
        exact .inr ⟨fun x => e x.symm, fun x => e2 x.symm, live_here h1 h2 h⟩
  · cases h
theorem live_none {tab : Nat → Option (List Int)} {cons : Nat → Nat} {i : Nat} (n : Nat) : liveR tab cons (Array.replicate n false) i = none := by
  unfold liveR
  rw [if_neg]
  rintro ⟨h, _⟩
  rw [Array.getD_eq_getD_getElem?] at h
  by_cases hl : i < n
  · simp [hl] at h
  · simp [Array.getElem?_eq_none (show (Array.replicate n false).size ≤ i by simp; omega)] at h
theorem OwnTs.none {w : World} {base : Nat} {tab : Nat → Option (List Int)} {cons : Nat → Nat} {T : Nat → Value} (n : Nat) : OwnTs w base (liveR tab cons (Array.replicate n false)) T :=
  ⟨fun i xs h => (by rw [live_none] at h; cases h), fun i j xs ys _ h => (by rw [live_none] at h; cases h)⟩

/-- What is listed and has a known value, has it. -/
def FV (vals : Nat → Option Value) (listed : Array Bool) (T : Nat → Value) : Prop := ∀ k v, vals k = some v → listed.getD k false = true → T k = v
theorem FV.set {vals : Nat → Option Value} {listed : Array Bool} {T : Nat → Value} (h : FV vals listed T) {i : Nat} (hi : i < listed.size) {v : Value} (hv : ∀ u, vals i = some u → v = u) : FV vals (listed.setIfInBounds i true) (upd T i v) := by
  intro k u hk hl
  rw [getD_set hi] at hl
  by_cases e : k = i
  · subst e
    rw [upd_same]
    exact hv u hk
  · rw [if_neg (fun x => e x.symm)] at hl
    rw [upd_ne e]
    exact h k u hk hl
theorem FV.none {vals : Nat → Option Value} {T : Nat → Value} (n : Nat) : FV vals (Array.replicate n false) T := by
  intro k u _ h
  rw [Array.getD_eq_getD_getElem?] at h
  by_cases hl : k < n
  · simp [hl] at h
  · simp [Array.getElem?_eq_none (show (Array.replicate n false).size ≤ k by simp; omega)] at h

/-- j comes after i. -/
def reach (md : Region.Mode) (ops : Array Oper) : Nat → Nat → Nat → Bool
  | 0, j, i => waits md ops j i
  | n + 1, j, i => waits md ops j i || (List.range ops.size).any fun k => waits md ops j k && reach md ops n k i
theorem closed_reach {md : Region.Mode} {ops : Array Oper} {listed : Array Bool} (hc : Closed md ops listed) : ∀ n j i, reach md ops n j i = true → listed.getD j false = true → listed.getD i false = true := by
  intro n
  induction n with
  | zero => intro j i h hj; exact hc j i hj h
  | succ n ih =>
    intro j i h hj
    unfold reach at h
    rcases Bool.or_eq_true_iff.1 h with h | h
    · exact hc j i hj h
    · obtain ⟨k, _, hk⟩ := List.any_eq_true.1 h
      obtain ⟨h1, h2⟩ := Bool.and_eq_true_iff.1 hk
      exact ih k i h2 (hc j k hj h1)
theorem not_yet {md : Region.Mode} {ops : Array Oper} {listed : Array Bool} (hc : Closed md ops listed) {i : Nat} (hi : listed.getD i false = false) (n j : Nat) (h : reach md ops n j i = true) : listed.getD j false = false := by
  cases hj : listed.getD j false with
  | false => rfl
  | true => rw [closed_reach hc n j i h hj] at hi; cases hi

theorem wpOp_plain {P : Program} {ops : Array Oper} {Q : Exit → Act → World → Prop} {i : Nat} {o : Oper} {K : Act → World → Prop} {a : Act} {w : World} (ho : ops[i]? = some o) (hg : o.guard = none)
    (h : ∀ K' : Act → World → Prop, (∀ a w, K a w → K' a w) → Oper.wp P o a w K' Q) : wpOp P ops Q i K a w :=
  wpOp_step ho fun K' hK => by simp only [Region.wanted, hg, if_true]; exact h K' hK

/-- A binding made anew, at g. -/
def NewB (w : World) (base g : Nat) (ts vs : List Int) : Prop := ∃ X c Y d, Box w g #[.slice X ts.length c, .slice Y vs.length d] 66 ∧ RowV w base (.slice X ts.length c) ts ∧ RowV w base (.slice Y vs.length d) vs
theorem NewB.store {w : World} {base g X c Y d} {ts vs : List Int} {cs : Array Value} (h : Box w g cs 66) (hcs : cs.size = 2) (h1 : RowV w base (.slice X ts.length c) ts) (h2 : RowV w base (.slice Y vs.length d) vs) :
    NewB ((w.setCell ⟨g, 0, none⟩ (.slice X ts.length c)).setCell ⟨g, 1, none⟩ (.slice Y vs.length d)) base g ts vs := by
  obtain ⟨a, b, rfl⟩ : ∃ a b, cs = #[a, b] := by
    obtain ⟨l⟩ := cs
    match l, hcs with
    | [a, b], _ => exact ⟨a, b, rfl⟩
  have s1 := h.set 0 (.slice X ts.length c)
  have s2 := s1.set 1 (.slice Y vs.length d)
  exact ⟨X, c, Y, d, s2, (h1.set h (by decide)).set s1 (by decide), (h2.set h (by decide)).set s1 (by decide)⟩

/-- What holds in the midst of a drawn region. -/
structure RInv (tab : Nat → Option (List Int)) (cons : Nat → Nat) (vals : Nat → Option Value) (w0 : World) (listed : Array Bool) (T : Nat → Value) (u : World) : Prop where
  below : Below w0.heap.size w0 u
  own : OwnTs u w0.heap.size (liveR tab cons listed) T
  fv : FV vals listed T
theorem RInv.start {tab : Nat → Option (List Int)} {cons : Nat → Nat} {vals : Nat → Option Value} {w0 : World} {T : Nat → Value} (n : Nat) : RInv tab cons vals w0 (Array.replicate n false) T (World.drew w0) :=
  ⟨below_drew w0, OwnTs.none n, FV.none n⟩
theorem RInv.quiet {tab : Nat → Option (List Int)} {cons : Nat → Nat} {vals : Nat → Option Value} {w0 : World} {listed : Array Bool} {T : Nat → Value} {u u' : World} (h : RInv tab cons vals w0 listed T u) {i : Nat} {v : Value} (hi : i < listed.size)
    (hb : Below u.heap.size u u') (ht : tab i = none) (hv : ∀ x, vals i = some x → v = x) : RInv tab cons vals w0 (listed.setIfInBounds i true) (upd T i v) u' := by
  refine ⟨step h.below hb, h.own.quiet hb fun k xs hk => ?_, h.fv.set hi hv⟩
  rcases live_set hi hk with ⟨rfl, e⟩ | ⟨h1, _, h3⟩
  · rw [ht] at e; cases e
  · exact ⟨h3, upd_ne h1⟩
theorem RInv.fresh {tab : Nat → Option (List Int)} {cons : Nat → Nat} {vals : Nat → Option Value} {w0 : World} {listed : Array Bool} {T : Nat → Value} {u u' : World} (h : RInv tab cons vals w0 listed T u) {i : Nat} {v : Value} {xs : List Int} (hi : i < listed.size)
    (hb : Below u.heap.size u u') (ht : tab i = some xs) (hx : vals i = none) (hv : RowV u' u.heap.size v xs) : RInv tab cons vals w0 (listed.setIfInBounds i true) (upd T i v) u' := by
  refine ⟨step h.below hb, h.own.fresh hb h.below.size hv i fun k ys hk => ?_, h.fv.set hi fun x hx' => by rw [hx] at hx'; cases hx'⟩
  rcases live_set hi hk with ⟨rfl, e⟩ | ⟨h1, _, h3⟩
  · rw [ht] at e; exact .inl ⟨rfl, by injection e⟩
  · exact .inr ⟨h1, h3⟩
theorem RInv.grow {tab : Nat → Option (List Int)} {cons : Nat → Nat} {vals : Nat → Option Value} {w0 : World} {listed : Array Bool} {T : Nat → Value} {u u' : World} (h : RInv tab cons vals w0 listed T u) {i k : Nat} {v : Value} {xs zs : List Int} (hi : i < listed.size)
    (hk : liveR tab cons listed k = some zs) (hck : cons k = i) (ht : tab i = some xs) (hx : vals i = none) (hv : RowV u' w0.heap.size v xs) (hg : u.grownBy u' (T k).ownBlock) (hat : v.ownBlock = (T k).ownBlock ∨ v.ownBlock = some u.heap.size) :
    RInv tab cons vals w0 (listed.setIfInBounds i true) (upd T i v) u' := by
  refine ⟨h.below.grown hg h.below.size fun j hj => (World.ownsRow.lt (h.own.row k zs hk) j hj).1, h.own.grow k i hk hv hg hat fun j ys hj => ?_, h.fv.set hi fun x hx' => by rw [hx] at hx'; cases hx'⟩
  rcases live_set hi hj with ⟨rfl, e⟩ | ⟨h1, h2, h3⟩
  · rw [ht] at e; exact .inl ⟨rfl, by injection e⟩
  · exact .inr ⟨h1, fun e => h2 (e ▸ hck), h3⟩
/-- The rows that are left, once the store is all that is left. -/
theorem RInv.row {tab : Nat → Option (List Int)} {cons : Nat → Nat} {vals : Nat → Option Value} {w0 : World} {listed : Array Bool} {T : Nat → Value} {u : World} (h : RInv tab cons vals w0 listed T u) {k : Nat} {xs : List Int} (h1 : listed.getD k false = true) (h2 : listed.getD (cons k) false = false) (h3 : tab k = some xs) :
    RowV u w0.heap.size (T k) xs := h.own.row k xs (live_here h1 h2 h3)
theorem RInv.val {tab : Nat → Option (List Int)} {cons : Nat → Nat} {vals : Nat → Option Value} {w0 : World} {listed : Array Bool} {T : Nat → Value} {u : World} (h : RInv tab cons vals w0 listed T u) {k : Nat} {v : Value} (h1 : listed.getD k false = true) (h3 : vals k = some v) : T k = v := h.fv k v h3 h1
end Go.Proofs.YtighalbnpgmdfaaGreat
