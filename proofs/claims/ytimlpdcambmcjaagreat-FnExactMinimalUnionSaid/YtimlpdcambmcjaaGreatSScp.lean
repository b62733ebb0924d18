/- A scope with labels to which the run jumps, and a loop with a ghost, inside a fence: two rules. Conditions: none beyond each theorem's own. -/
import Derived.ControlIn

namespace Go.Proofs.YtimlpdcambmcjaaGreat
set_option linter.unusedVariables false
set_option linter.unusedSimpArgs false

/-- As Q; by a goto: J. -/
def jumps (J : Nat → Act → World → Prop) (Q : Exit → Act → World → Prop) : Exit → Act → World → Prop
  | .goto l, a, w => J l a w
  | .normal, a, w => Q .normal a w
  | .exit id, a, w => Q (.exit id) a w
  | .ret, a, w => Q .ret a w
  | .panic ch, a, w => Q (.panic ch) a w
  | .outgrown, a, w => Q .outgrown a w

variable {F : Fence} {n : Nat} {P : Program} {Q : Exit → Act → World → Prop} {a : Act} {w : World}

theorem stepR_scope {b : Frame} {k : List Item} {cs : List Frame} {c : Code} : step P (lone (b.atR a (.code (.scope c) :: k)) cs w) = .next (lone (b.atR a (.code c :: .inScope c :: k)) cs w) :=
  step_lone_go (by simp [stepG, stepG.exec, Frame.atR])
theorem stepR_inScope {b : Frame} {k : List Item} {cs : List Frame} {c : Code} : step P (lone (b.atR a (.inScope c :: k)) cs w) = .next (lone (b.atR a k) cs w) :=
  step_lone_go (by simp [stepG, stepG.exec, Frame.atR])

/-- A scope: J l s: what holds at a jump to label l, s the proof's own; μ falls at every jump. -/
theorem wpIn_scope_labels {σ : Type} {c : Code} (rest : Nat → Code) (J : Nat → σ → Act → World → Prop) (μ : Nat → σ → Nat) (hf : ∀ l s a w, J l s a w → findLabel c l = some (rest l))
    (first : c.wpIn F n P (jumps (fun l a w => ∃ s, J l s a w) Q) a w)
    (pass : ∀ l s a w, J l s a w → (rest l).wpIn F n P (jumps (fun l' a' w' => ∃ s', J l' s' a' w' ∧ μ l' s' < μ l s) Q) a w) : (Code.scope c).wpIn F n P Q a w := by
  intro b k cs hro hb hr
  have hg : ∀ l s a w, J l s a w → gotoIn l (.inScope c :: k) = some (.code (rest l) :: .inScope c :: k) := fun l s a w h => by simp [gotoIn, hf l s a w h]
  have hx : ∀ id, exitTo id (.inScope c :: k) = exitTo id k := fun id => by simp [exitTo]
  have key : ∀ m l s a w, μ l s = m → J l s a w → ∃ e a' w', Q e a' w' ∧ ArrivesIn (Machine.fenced P F) P (lone (b.atR a (.code (rest l) :: .inScope c :: k)) cs w) b k cs e a' w' := by
    intro m
    induction m using Nat.strongRecOn with
    | _ m ih =>
      intro l s a w hm hJ
      obtain ⟨e, a₁, w₁, hq, harr⟩ := pass l s a w hJ b (.inScope c :: k) cs hro hb hr
      cases e with
      | normal => exact ⟨.normal, a₁, w₁, hq, StepsIn.trans harr (.one (fenced_calm hb hr rfl) stepR_inScope)⟩
      | exit id => exact ⟨.exit id, a₁, w₁, hq, fun k' hk => harr.1 k' (by rw [hx]; exact hk), fun hr' hk => harr.2 hr' (by rw [hx]; exact hk)⟩
      | goto l' =>
        obtain ⟨s', hJ', hlt⟩ := hq
        obtain ⟨e₂, a₂, w₂, hq₂, harr₂⟩ := ih _ (by omega) l' s' a₁ w₁ rfl hJ'
        exact ⟨e₂, a₂, w₂, hq₂, .of_steps (harr.1 _ (hg _ _ _ _ hJ')) harr₂⟩
      | ret => exact ⟨_, a₁, w₁, hq, harr⟩
      | panic ch => exact ⟨_, a₁, w₁, hq, harr⟩
      | outgrown => exact ⟨_, a₁, w₁, hq, harr⟩
  have h0 : (lone (b.atR a (.code (.scope c) :: k)) cs w).fenced P F := fenced_calm hb hr rfl
  obtain ⟨e, a₁, w₁, hq, harr⟩ := first b (.inScope c :: k) cs hro hb hr
  cases e with
  | normal => exact ⟨.normal, a₁, w₁, hq, .head h0 stepR_scope (StepsIn.trans harr (.one (fenced_calm hb hr rfl) stepR_inScope))⟩
  | exit id => exact ⟨.exit id, a₁, w₁, hq, fun k' hk => .head h0 stepR_scope (harr.1 k' (by rw [hx]; exact hk)), fun hr' hk => let ⟨k₁, h1, h2⟩ := harr.2 hr' (by rw [hx]; exact hk); ⟨k₁, h1, .head h0 stepR_scope h2⟩⟩
  | goto l' =>
    obtain ⟨s', hJ'⟩ := hq
    obtain ⟨e₂, a₂, w₂, hq₂, harr₂⟩ := key _ l' s' a₁ w₁ rfl hJ'
    exact ⟨e₂, a₂, w₂, hq₂, .of_steps (.head h0 stepR_scope (harr.1 _ (hg _ _ _ _ hJ'))) harr₂⟩
  | ret => exact ⟨_, a₁, w₁, hq, .of_steps (.one h0 stepR_scope) harr⟩
  | panic ch => exact ⟨_, a₁, w₁, hq, .of_steps (.one h0 stepR_scope) harr⟩
  | outgrown => exact ⟨_, a₁, w₁, hq, .of_steps (.one h0 stepR_scope) harr⟩

/-- A loop: I s: what holds ahead of a round, s the proof's own; μ falls at every round. -/
theorem wpIn_loop_ghost {σ : Type} {c : Code} (I : σ → Act → World → Prop) (μ : σ → Nat) (s₀ : σ) (h₀ : I s₀ a w)
    (round : ∀ s a w, I s a w → c.wpIn F n P (Exit.then (fun a' w' => ∃ s', I s' a' w' ∧ μ s' < μ s) Q) a w) : (Code.loop c).wpIn F n P Q a w := by
  intro b k cs hro hb hr
  have key : ∀ j s a w, μ s = j → I s a w →
      ∃ e a' w', Q e a' w' ∧ ArrivesIn (Machine.fenced P F) P (lone (b.atR a (.code c :: .inLoop c :: k)) cs w) b k cs e a' w' := by
    intro j
    induction j using Nat.strongRecOn with
    | _ j ih =>
      intro s a w hn hI
      obtain ⟨e, a₁, w₁, hq, harr⟩ := round s a w hI b (.inLoop c :: k) cs hro hb hr
      cases e with
      | normal =>
        obtain ⟨s', hI₁, hlt⟩ := hq
        obtain ⟨e₂, a₂, w₂, hq₂, harr₂⟩ := ih (μ s') (hn ▸ hlt) s' a₁ w₁ rfl hI₁
        exact ⟨e₂, a₂, w₂, hq₂, .of_steps (StepsIn.trans harr (.one (fenced_calm hb hr rfl) stepR_inLoop)) harr₂⟩
      | exit id => exact ⟨_, a₁, w₁, hq, .pass (x := .inLoop c) rfl (fun _ _ => .inl (by simp)) harr⟩
      | goto l => exact ⟨_, a₁, w₁, hq, .pass (x := .inLoop c) rfl (fun _ _ => .inl (by simp)) harr⟩
      | ret => exact ⟨_, a₁, w₁, hq, .pass (x := .inLoop c) rfl (fun _ _ => .inl (by simp)) harr⟩
      | panic ch => exact ⟨_, a₁, w₁, hq, .pass (x := .inLoop c) rfl (fun _ _ => .inl (by simp)) harr⟩
      | outgrown => exact ⟨_, a₁, w₁, hq, .pass (x := .inLoop c) rfl (fun _ _ => .inl (by simp)) harr⟩
  obtain ⟨e, a', w', hq, harr⟩ := key _ s₀ a w rfl h₀
  exact ⟨e, a', w', hq, .of_steps (.one (fenced_calm hb hr rfl) stepR_loop) harr⟩

theorem wp_scope_labels {σ : Type} {c : Code} (rest : Nat → Code) (J : Nat → σ → Act → World → Prop) (μ : Nat → σ → Nat) (hf : ∀ l s a w, J l s a w → findLabel c l = some (rest l))
    (first : c.wp P (jumps (fun l a w => ∃ s, J l s a w) Q) a w)
    (pass : ∀ l s a w, J l s a w → (rest l).wp P (jumps (fun l' a' w' => ∃ s', J l' s' a' w' ∧ μ l' s' < μ l s) Q) a w) : (Code.scope c).wp P Q a w :=
  wpIn_wide.1 (wpIn_scope_labels (F := Fence.wide) (n := 0) rest J μ hf (wpIn_wide.2 first) (fun l s a w h => wpIn_wide.2 (pass l s a w h)))
theorem wp_scope_find {σ : Type} {c : Code} (J : Nat → σ → Act → World → Prop) (μ : Nat → σ → Nat) (hf : ∀ l s a w, J l s a w → (findLabel c l).isSome = true)
    (first : c.wp P (jumps (fun l a w => ∃ s, J l s a w) Q) a w)
    (pass : ∀ l s a w, J l s a w → ((findLabel c l).getD .skip).wp P (jumps (fun l' a' w' => ∃ s', J l' s' a' w' ∧ μ l' s' < μ l s) Q) a w) : (Code.scope c).wp P Q a w :=
  wp_scope_labels (fun l => (findLabel c l).getD .skip) J μ (fun l s a w h => by
    obtain ⟨r, hr⟩ := Option.isSome_iff_exists.1 (hf l s a w h)
    rw [hr]
    rfl) first pass
/-- Two labels, one behind the other: forward, back. -/
theorem wp_scope_two {σ : Type} {A B C1 C2 Y : Code} {l1 l0 : Nat} (hne : l0 ≠ l1) (J1 J0 : σ → Act → World → Prop) (m1 m0 : σ → Nat)
    (hf1 : findLabel (.seq A (.seq B (.seq (.label l1) (.seq C1 (.seq C2 (.seq (.label l0) Y)))))) l1 = some (.seq .skip (.seq C1 (.seq C2 (.seq (.label l0) Y)))))
    (hf0 : findLabel (.seq A (.seq B (.seq (.label l1) (.seq C1 (.seq C2 (.seq (.label l0) Y)))))) l0 = some (.seq .skip Y))
    (first : A.wp P (Exit.then (fun a w => B.wp P (Exit.then (fun a w => ∃ s, J1 s a w) (jumps (fun _ _ _ => False) Q)) a w) (jumps (fun _ _ _ => False) Q)) a w)
    (fwd : ∀ s a w, J1 s a w → C1.wp P (Exit.then (fun a w => C2.wp P (Exit.then (fun a w => ∃ s', J0 s' a w ∧ m0 s' < m1 s) (jumps (fun l a w => l = l0 ∧ ∃ s', J0 s' a w ∧ m0 s' < m1 s) Q)) a w) (jumps (fun l a w => l = l0 ∧ ∃ s', J0 s' a w ∧ m0 s' < m1 s) Q)) a w)
    (bck : ∀ s a w, J0 s a w → Y.wp P (jumps (fun l a w => l = l1 ∧ ∃ s', J1 s' a w ∧ m1 s' < m0 s) Q) a w) :
    (Code.scope (.seq A (.seq B (.seq (.label l1) (.seq C1 (.seq C2 (.seq (.label l0) Y))))))).wp P Q a w := by
  have bckY : ∀ s a w, J0 s a w → ∀ R : Nat → Act → World → Prop, (∀ s' a w, J1 s' a w → m1 s' < m0 s → R l1 a w) → Y.wp P (jumps R Q) a w := by
    intro s a w h R hR
    refine wp_mono (bck s a w h) ?_
    intro e a w hq
    cases e with
    | goto l => obtain ⟨rfl, s', h1, h2⟩ := hq; exact hR s' _ _ h1 h2
    | normal => exact hq
    | exit id => exact hq
    | ret => exact hq
    | panic ch => exact hq
    | outgrown => exact hq
  have fwdX : ∀ s a w, J1 s a w → ∀ R : Nat → Act → World → Prop, (∀ s' a w, J1 s' a w → m1 s' < m1 s → R l1 a w) → (∀ s' a w, J0 s' a w → m0 s' < m1 s → R l0 a w) →
      (Code.seq C1 (.seq C2 (.seq (.label l0) Y))).wp P (jumps R Q) a w := by
    intro s a w h R hR1 hR0
    refine wp_seq (wp_mono (fwd s a w h) ?_)
    intro e a w hq
    cases e with
    | normal =>
      refine wp_seq (wp_mono (show C2.wp P _ a w from hq) ?_)
      intro e a w hq
      cases e with
      | normal =>
        obtain ⟨s', h1, h2⟩ := hq
        exact wp_seq (wp_label (bckY s' a w h1 R fun s2 a w h3 h4 => hR1 s2 a w h3 (Nat.lt_trans h4 h2)))
      | goto l => obtain ⟨rfl, s', h1, h2⟩ := hq; exact hR0 s' _ _ h1 h2
      | exit id => exact hq
      | ret => exact hq
      | panic ch => exact hq
      | outgrown => exact hq
    | goto l => obtain ⟨rfl, s', h1, h2⟩ := hq; exact hR0 s' _ _ h1 h2
    | exit id => exact hq
    | ret => exact hq
    | panic ch => exact hq
    | outgrown => exact hq
  refine wp_scope_find (fun l s a w => (l = l1 ∧ J1 s a w) ∨ (l = l0 ∧ J0 s a w)) (fun l s => if l = l1 then m1 s else m0 s) ?_ ?_ ?_
  · rintro l s a w (⟨rfl, _⟩ | ⟨rfl, _⟩)
    · rw [hf1]; rfl
    · rw [hf0]; rfl
  · refine wp_seq (wp_mono first ?_)
    intro e a w hq
    cases e with
    | normal =>
      refine wp_seq (wp_mono (show B.wp P _ a w from hq) ?_)
      intro e a w hq
      cases e with
      | normal =>
        obtain ⟨s, h⟩ := hq
        exact wp_seq (wp_label (fwdX s a w h _ (fun s' a w h1 _ => ⟨s', .inl ⟨rfl, h1⟩⟩) (fun s' a w h1 _ => ⟨s', .inr ⟨rfl, h1⟩⟩)))
      | goto l => exact hq.elim
      | exit id => exact hq
      | ret => exact hq
      | panic ch => exact hq
      | outgrown => exact hq
    | goto l => exact hq.elim
    | exit id => exact hq
    | ret => exact hq
    | panic ch => exact hq
    | outgrown => exact hq
  · rintro l s a w (⟨rfl, h⟩ | ⟨rfl, h⟩)
    · rw [hf1]
      exact wp_seq (wp_skip (fwdX s a w h _ (fun s' a w h1 h2 => ⟨s', .inl ⟨rfl, h1⟩, by rw [if_pos rfl, if_pos rfl]; exact h2⟩) (fun s' a w h1 h2 => ⟨s', .inr ⟨rfl, h1⟩, by rw [if_neg hne, if_pos rfl]; exact h2⟩)))
    · rw [hf0]
      exact wp_seq (wp_skip (bckY s a w h _ (fun s' a w h1 h2 => ⟨s', .inl ⟨rfl, h1⟩, by rw [if_pos rfl, if_neg hne]; exact h2⟩)))
theorem wp_loop_ghost2 {σ : Type} {c : Code} (I : σ → Act → World → Prop) (μ : σ → Nat) (s₀ : σ) (h₀ : I s₀ a w)
    (round : ∀ s a w, I s a w → c.wp P (Exit.then (fun a' w' => ∃ s', I s' a' w' ∧ μ s' < μ s) Q) a w) : (Code.loop c).wp P Q a w :=
  wpIn_wide.1 (wpIn_loop_ghost (F := Fence.wide) (n := 0) I μ s₀ h₀ (fun s a w h => wpIn_wide.2 (round s a w h)))
end Go.Proofs.YtimlpdcambmcjaaGreat
