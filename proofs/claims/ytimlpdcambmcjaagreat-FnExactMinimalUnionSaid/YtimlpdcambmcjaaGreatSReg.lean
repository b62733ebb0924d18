/- A drawn region by an invariant over what is listed. Conditions: none beyond each theorem's own. -/
import Derived.RegionTactic

namespace Go.Proofs.YtimlpdcambmcjaaGreat
set_option linter.unusedVariables false
set_option linter.unusedSimpArgs false

section
variable {P : Program} {ops : Array Oper} {Q : Exit → Act → World → Prop} {md : Region.Mode}

/-- Every binding edge leads back. -/
def backB (md : Region.Mode) (ops : Array Oper) : Bool :=
  (List.range ops.size).all fun i => ((ops[i]?).map (·.after.all fun e => !Region.binds md e || decide (e.on < i))).getD true

theorem getD_flip {l : Array Bool} {i : Nat} (h : i < l.size) (a b : Bool) : l.getD i a = l.getD i b := by
  rw [Array.getD_eq_getD_getElem?, Array.getD_eq_getD_getElem?, Array.getElem?_eq_getElem h]
  rfl

theorem ready_mem {listed : Array Bool} {i : Nat} : i ∈ Region.ready md ops listed ↔ i < ops.size ∧ listed.getD i true = false ∧ ∃ o, ops[i]? = some o ∧ o.after.all (fun e => !Region.binds md e || listed.getD e.on false) = true := by
  unfold Region.ready
  rw [List.mem_filter, List.mem_range]
  refine ⟨fun ⟨h, h2⟩ => ?_, fun ⟨h, h2, o, h3, h4⟩ => ⟨h, ?_⟩⟩
  · rw [Bool.and_eq_true] at h2
    obtain ⟨h2, h3⟩ := h2
    refine ⟨h, by simpa using h2, ops[i], Array.getElem?_eq_getElem h, ?_⟩
    rw [Array.getElem?_eq_getElem h] at h3
    exact h3
  · rw [h2, h3, Bool.and_eq_true]
    exact ⟨rfl, h4⟩

theorem ready_lt {listed : Array Bool} {i : Nat} (h : i ∈ Region.ready md ops listed) : i < ops.size := (ready_mem.1 h).1
theorem ready_new {listed : Array Bool} {i : Nat} (h : i ∈ Region.ready md ops listed) (hz : listed.size = ops.size) : listed.getD i false = false := by
  rw [getD_flip (hz ▸ ready_lt h) false true]
  exact (ready_mem.1 h).2.1

/-- i waits for j. -/
def waits (md : Region.Mode) (ops : Array Oper) (i j : Nat) : Bool := ((ops[i]?).map (·.after.any fun e => Region.binds md e && e.on == j)).getD false
theorem waits_spec {i j : Nat} (h : waits md ops i j = true) : ∃ o, ops[i]? = some o ∧ ∃ e ∈ o.after, Region.binds md e = true ∧ e.on = j := by
  unfold waits at h
  cases ho : ops[i]? with
  | none => rw [ho] at h; simp at h
  | some o =>
    rw [ho] at h
    simp only [Option.map_some, Option.getD_some] at h
    obtain ⟨e, he, hb⟩ := Array.any_eq_true'.1 h
    simp only [Bool.and_eq_true, beq_iff_eq] at hb
    exact ⟨o, rfl, e, he, hb.1, hb.2⟩
theorem ready_dep {listed : Array Bool} {i : Nat} (h : i ∈ Region.ready md ops listed) {j : Nat} (hw : waits md ops i j = true) : listed.getD j false = true := by
  obtain ⟨_, _, o, ho, ha⟩ := ready_mem.1 h
  obtain ⟨o', ho', e, he, hb, rfl⟩ := waits_spec hw
  rw [ho] at ho'
  cases ho'
  have := Array.all_eq_true'.1 ha e he
  simpa [hb] using this

theorem ready_all (hb : backB md ops = true) {listed : Array Bool} (hz : listed.size = ops.size) (hr : Region.ready md ops listed = []) : ∀ i, i < ops.size → listed.getD i false = true := by
  intro i
  induction i using Nat.strongRecOn with
  | ind i ih =>
    intro hi
    cases hl : listed.getD i false with
    | true => rfl
    | false =>
      have hm : i ∈ Region.ready md ops listed := by
        refine ready_mem.2 ⟨hi, by rw [getD_flip (hz ▸ hi) true false, hl], ops[i], Array.getElem?_eq_getElem hi, ?_⟩
        refine Array.all_eq_true'.2 fun e he => ?_
        have h1 := List.all_eq_true.1 hb i (List.mem_range.2 hi)
        rw [Array.getElem?_eq_getElem hi] at h1
        have h2 := Array.all_eq_true'.1 h1 e he
        cases hbi : Region.binds md e with
        | false => rfl
        | true =>
          rw [hbi] at h2
          have h3 : e.on < i := by simpa using h2
          rw [ih e.on h3 (by omega)]
          rfl
      rw [hr] at hm
      cases hm

/-- What is listed holds what it waits for. -/
def Closed (md : Region.Mode) (ops : Array Oper) (listed : Array Bool) : Prop := ∀ i j, listed.getD i false = true → waits md ops i j = true → listed.getD j false = true
theorem getD_set_true {l : Array Bool} {i j : Nat} (h : l.getD j false = true) : (l.setIfInBounds i true).getD j false = true := by
  rw [Array.getD_eq_getD_getElem?] at h ⊢
  rw [Array.getElem?_setIfInBounds]
  split
  · split
    · rfl
    · rename_i e h2
      subst e
      rw [Array.getElem?_eq_none (by omega)] at h
      simp at h
  · exact h
theorem getD_set {l : Array Bool} {i j : Nat} (hi : i < l.size) : (l.setIfInBounds i true).getD j false = (if i = j then true else l.getD j false) := by
  rw [Array.getD_eq_getD_getElem?, Array.getElem?_setIfInBounds]
  split
  · rfl
  · rw [Array.getD_eq_getD_getElem?]
theorem Closed.set {listed : Array Bool} (h : Closed md ops listed) (hz : listed.size = ops.size) {i : Nat} (hi : i ∈ Region.ready md ops listed) : Closed md ops (listed.setIfInBounds i true) := by
  intro k j hk hw
  rw [getD_set (hz ▸ ready_lt hi)] at hk
  split at hk
  · rename_i e
    subst e
    exact getD_set_true (ready_dep hi hw)
  · exact getD_set_true (h k j hk hw)
theorem Closed.none (n : Nat) : Closed md ops (Array.replicate n false) := by
  intro k j hk _
  rw [Array.getD_eq_getD_getElem?] at hk
  by_cases h : k < n
  · simp [h] at hk
  · simp [Array.getElem?_eq_none (show (Array.replicate n false).size ≤ k by simp; omega)] at hk

theorem cnt_set {l : Array Bool} {i : Nat} (h : i < l.size) (hf : l.getD i true = false) : (l.setIfInBounds i true).toList.count false + 1 = l.toList.count false := by
  have he : l.toList[i]'(by simpa using h) = false := by
    rw [Array.getD_eq_getD_getElem?, Array.getElem?_eq_getElem h] at hf
    simpa using hf
  rw [Array.toList_setIfInBounds, List.count_set (by simpa using h), he]
  have : 0 < l.toList.count false := List.count_pos_iff.2 (he ▸ List.getElem_mem _)
  have h1 : (false == false) = true := rfl
  have h2 : (true == false) = false := rfl
  rw [if_pos h1, h2, if_neg (by decide)]
  omega

theorem wpAny_inv (hb : backB md ops = true) (I : Array Bool → Act → World → Prop)
    (hstep : ∀ listed a w i, i ∈ Region.ready md ops listed → listed.size = ops.size → Closed md ops listed → I listed a w → wpOp P ops Q i (fun a' w' => I (listed.setIfInBounds i true) a' w') a w)
    (hdone : ∀ listed a w, listed.size = ops.size → (∀ i, i < ops.size → listed.getD i false = true) → I listed a w → Q .normal a w) :
    ∀ (fuel : Nat) (listed : Array Bool) (a : Act) (w : World), listed.size = ops.size → Closed md ops listed → listed.toList.count false ≤ fuel → I listed a w → wpAny P md ops Q fuel listed a w := by
  intro fuel
  induction fuel with
  | zero =>
    intro listed a w hz hc hn hI
    have hr : Region.ready md ops listed = [] := by
      refine List.eq_nil_iff_forall_not_mem.2 fun i hi => ?_
      have := cnt_set (hz ▸ ready_lt hi) (ready_mem.1 hi).2.1
      omega
    exact ⟨hr, hdone _ _ _ hz (ready_all hb hz hr) hI⟩
  | succ fuel ih =>
    intro listed a w hz hc hn hI
    refine ⟨fun hr => hdone _ _ _ hz (ready_all hb hz hr) hI, fun i hi => ?_⟩
    refine wpOp_mono (fun a' w' h' => ?_) (hstep listed a w i hi hz hc hI)
    refine ih _ _ _ (by rw [Array.size_setIfInBounds]; exact hz) (hc.set hz hi) ?_ h'
    have := cnt_set (hz ▸ ready_lt hi) (ready_mem.1 hi).2.1
    omega

theorem wp_region_inv {id : Nat} {a : Act} {w : World} (hm : P.follows .mixedOrders = true) (hb : backB .any ops = true) (I : Array Bool → Act → World → Prop)
    (h0 : I (Array.replicate ops.size false) a (World.drew w))
    (hstep : ∀ listed a w i, i ∈ Region.ready .any ops listed → listed.size = ops.size → Closed .any ops listed → I listed a w → wpOp P ops Q i (fun a' w' => I (listed.setIfInBounds i true) a' w') a w)
    (hdone : ∀ listed a w, listed.size = ops.size → (∀ i, i < ops.size → listed.getD i false = true) → I listed a w → Q .normal a w) :
    (Code.region id ops true).wp P Q a w := by
  refine wp_region_any hm ?_
  refine wpAny_inv hb I hstep hdone _ _ _ _ (by simp) (Closed.none _) ?_ h0
  refine Nat.le_trans List.count_le_length ?_
  simp
end
end Go.Proofs.YtimlpdcambmcjaaGreat
