/- The law's two great regions: what holds in their midst. Conditions: none beyond each theorem's own. -/
import Derived.Test.YtigakhkhjjbboaaMatL
namespace Go.Proofs.Ytigakhkhjjbboaa
open Go.ChangeShapes Go.WideShapes Go.ChangeAt Go.RowKit Go.Sort
set_option linter.unusedVariables false
set_option linter.unusedSimpArgs false

/-- A binding that lies below B. -/
def BB (w : World) (B : Nat) (X Y : Option Addr) (p : PL) : Prop := Ints w 0 B X p.1 ∧ Ints w 0 B Y p.2 ∧ B ≤ w.heap.size
theorem BB.keep {w w' : World} {B : Nat} {X Y : Option Addr} {p : PL} (h : BB w B X Y p) (hk : ∀ b, b < B → w'.heap[b]? = w.heap[b]?) (hs : w.heap.size ≤ w'.heap.size) : BB w' B X Y p :=
  ⟨h.1.keep fun b _ hb => hk b hb, h.2.1.keep fun b _ hb => hk b hb, Nat.le_trans h.2.2 hs⟩
theorem BB.step {w w' : World} {B : Nat} {X Y : Option Addr} {p : PL} (h : BB w B X Y p) (b : Below w.heap.size w w') : BB w' B X Y p := h.keep (fun k hk => b.block k (by have := h.2.2; omega)) b.size
theorem BB.ri {w : World} {B : Nat} {X Y : Option Addr} {p : PL} (h : BB w B X Y p) : RI w X p.1 := h.1.mono (Nat.le_refl _) h.2.2
theorem BB.rv {w : World} {B : Nat} {X Y : Option Addr} {p : PL} (h : BB w B X Y p) : RI w Y p.2 := h.2.1.mono (Nat.le_refl _) h.2.2

theorem TurnB.of_ne {w w' : World} {q : Nat} (h : ∀ b, b ≠ q → b < w.heap.size → w'.heap[b]? = w.heap[b]?) (hb : Below q w w') : TurnB q (q + 1) w w' := ⟨hb, hb.size, fun b hq hl => h b (by omega) hl⟩
theorem Box.turnB {w w' : World} {lo hi g : Nat} {cs : Array Value} {t : TypeId} (h : Box w g cs t) (W : TurnB lo hi w w') (hg : g < lo ∨ hi ≤ g) : Box w' g cs t := (W.block g hg h.lt).trans h
theorem Row.turnB {w w' : World} {lo hi g : Nat} {xs : List Int} (h : Row w g xs) (W : TurnB lo hi w w') (hg : g < lo ∨ hi ≤ g) : Row w' g xs := h.of_block (W.block g hg (World.rowIs.lt h))
theorem BB.turnB {w w' : World} {lo hi B : Nat} {X Y : Option Addr} {p : PL} (h : BB w B X Y p) (W : TurnB lo hi w w') (hB : B ≤ lo) : BB w' B X Y p := h.keep (fun b hb => W.block b (.inl (by omega)) (by have := h.2.2; omega)) W.size
theorem BR.turnB {w w' : World} {lo hi lo' hi' c d : Nat} {X Y : Option Addr} {p : PL} (h : BR w lo hi X c Y d p) (W : TurnB lo' hi' w w') (hd : hi ≤ lo' ∨ hi' ≤ lo) : BR w' lo hi X c Y d p := by
  have h8 : hi ≤ w.heap.size := by obtain ⟨_, _, _, _, _, _, _, _, _, h8⟩ := h; exact h8
  exact h.keep (fun b h1 h2 => W.block b (by omega) (by omega)) W.size

def mvVals (a0 a1 a2 : Value) (f : Bool) : Nat → Option Value
  | 0 => some a0 | 2 => some a1 | 4 => some a2 | 9 => some (.bool f) | 12 => some (.bool f) | _ => none

structure MRI (p : PL) (flag : Bool) (s0 l0 ts vs : List Int) (r1 r2 : Int) (a0 a1 a2 : Value) (w0 : World) (listed : Array Bool) (T : Nat → Value) (u : World) : Prop where
  below : Below w0.heap.size w0 u
  fv : FV (mvVals a0 a1 a2 flag) listed T
  p1 : listed.getD 6 false = false → listed.getD 1 false = true → ∃ X c Y d, T 1 = .agg #[.slice X s0.length c, .slice Y l0.length d] ∧ RI u X s0 ∧ RI u Y l0
  p3 : listed.getD 6 false = false → listed.getD 3 false = true → ∃ X c, T 3 = .agg #[.int .i64 r1, .slice X ts.length c] ∧ RI u X ts
  p5 : listed.getD 6 false = false → listed.getD 5 false = true → ∃ X c, T 5 = .agg #[.int .i64 r2, .slice X vs.length c] ∧ RI u X vs
  p6 : listed.getD 6 false = true → ∃ X c Y d, T 6 = .tuple #[.agg #[.slice X p.1.length c, .slice Y p.2.length d], .bool flag] ∧ (listed.getD 7 false = true → T 7 = T 6) ∧ (listed.getD 8 false = true → T 8 = .agg #[.slice X p.1.length c, .slice Y p.2.length d]) ∧ RI u X p.1 ∧ RI u Y p.2
  p10 : listed.getD 11 false = false → listed.getD 10 false = true → ∃ gb, T 10 = .pointer (some ⟨gb, 0, none⟩) ∧ Box u gb #[.slice none 0 0, .slice none 0 0] 32 ∧ w0.heap.size ≤ gb
  p11 : listed.getD 11 false = true → ∃ gb X c Y d, T 10 = .pointer (some ⟨gb, 0, none⟩) ∧ Box u gb #[.slice X p.1.length c, .slice Y p.2.length d] 32 ∧ w0.heap.size ≤ gb ∧ BI u X Y p

theorem MRI.start {p : PL} {flag : Bool} {s0 l0 ts vs : List Int} {r1 r2 : Int} {a0 a1 a2 : Value} {w0 : World} {T : Nat → Value} : MRI p flag s0 l0 ts vs r1 r2 a0 a1 a2 w0 (Array.replicate 13 false) T (World.drew w0) := by
  refine ⟨below_drew w0, FV.none _, fun _ h => ?_, fun _ h => ?_, fun _ h => ?_, fun h => ?_, fun _ h => ?_, fun h => ?_⟩ <;> exact absurd h (by decide)

theorem MRI.fresh {p : PL} {flag : Bool} {s0 l0 ts vs : List Int} {r1 r2 : Int} {a0 a1 a2 : Value} {w0 : World} {listed : Array Bool} {T : Nat → Value} {u u' : World} (h : MRI p flag s0 l0 ts vs r1 r2 a0 a1 a2 w0 listed T u) {i : Nat} {v : Value} (hs : i < listed.size)
    (hb : Below u.heap.size u u') (hfv : ∀ x, mvVals a0 a1 a2 flag i = some x → v = x)
    (n1 : i = 1 → ∃ X c Y d, v = .agg #[.slice X s0.length c, .slice Y l0.length d] ∧ RI u' X s0 ∧ RI u' Y l0)
    (n3 : i = 3 → ∃ X c, v = .agg #[.int .i64 r1, .slice X ts.length c] ∧ RI u' X ts)
    (n5 : i = 5 → ∃ X c, v = .agg #[.int .i64 r2, .slice X vs.length c] ∧ RI u' X vs)
    (n6 : i = 6 → listed.getD 7 false = false ∧ listed.getD 8 false = false ∧ ∃ X c Y d, v = .tuple #[.agg #[.slice X p.1.length c, .slice Y p.2.length d], .bool flag] ∧ RI u' X p.1 ∧ RI u' Y p.2)
    (n7 : i = 7 → v = T 6) (n8 : i = 8 → ∀ X c Y d, T 6 = .tuple #[.agg #[.slice X p.1.length c, .slice Y p.2.length d], .bool flag] → v = .agg #[.slice X p.1.length c, .slice Y p.2.length d])
    (n10 : i = 10 → listed.getD 11 false = false ∧ ∃ gb, v = .pointer (some ⟨gb, 0, none⟩) ∧ Box u' gb #[.slice none 0 0, .slice none 0 0] 32 ∧ w0.heap.size ≤ gb)
    (ni : i ≠ 11) : MRI p flag s0 l0 ts vs r1 r2 a0 a1 a2 w0 (listed.setIfInBounds i true) (upd T i v) u' := by
  refine ⟨step h.below hb, h.fv.set hs hfv, fun h6 hk => ?_, fun h6 hk => ?_, fun h6 hk => ?_, fun hk => ?_, fun h11 hk => ?_, fun hk => ?_⟩
  · rw [getD_set hs] at h6 hk
    by_cases e : i = 1
    · obtain ⟨X, c, Y, d, k⟩ := n1 e
      exact ⟨X, c, Y, d, by rw [← e, upd_same]; exact k.1, k.2⟩
    · rw [if_neg e] at hk
      split at h6
      · cases h6
      · obtain ⟨X, c, Y, d, k1, k2, k3⟩ := h.p1 h6 hk
        exact ⟨X, c, Y, d, by rw [upd_ne (fun x => e x.symm)]; exact k1, k2.step hb, k3.step hb⟩
  · rw [getD_set hs] at h6 hk
    by_cases e : i = 3
    · obtain ⟨X, c, k⟩ := n3 e
      exact ⟨X, c, by rw [← e, upd_same]; exact k.1, k.2⟩
    · rw [if_neg e] at hk
      split at h6
      · cases h6
      · obtain ⟨X, c, k1, k2⟩ := h.p3 h6 hk
        exact ⟨X, c, by rw [upd_ne (fun x => e x.symm)]; exact k1, k2.step hb⟩
  · rw [getD_set hs] at h6 hk
    by_cases e : i = 5
    · obtain ⟨X, c, k⟩ := n5 e
      exact ⟨X, c, by rw [← e, upd_same]; exact k.1, k.2⟩
    · rw [if_neg e] at hk
      split at h6
      · cases h6
      · obtain ⟨X, c, k1, k2⟩ := h.p5 h6 hk
        exact ⟨X, c, by rw [upd_ne (fun x => e x.symm)]; exact k1, k2.step hb⟩
  · rw [getD_set hs] at hk
    by_cases e : i = 6
    · subst e
      obtain ⟨m7, m8, X, c, Y, d, k1, k2, k3⟩ := n6 rfl
      refine ⟨X, c, Y, d, by rw [upd_same]; exact k1, fun m => ?_, fun m => ?_, k2, k3⟩
      · rw [getD_set hs, if_neg (by decide), m7] at m; cases m
      · rw [getD_set hs, if_neg (by decide), m8] at m; cases m
    · rw [if_neg e] at hk
      obtain ⟨X, c, Y, d, k1, k2, k3, k4, k5⟩ := h.p6 hk
      refine ⟨X, c, Y, d, by rw [upd_ne (fun x => e x.symm)]; exact k1, fun m => ?_, fun m => ?_, k4.step hb, k5.step hb⟩
      · rw [upd_ne (k := 6) (fun x => e x.symm)]
        by_cases e7 : i = 7
        · subst e7; rw [upd_same]; exact n7 rfl
        · rw [getD_set hs, if_neg e7] at m
          rw [upd_ne (fun x => e7 x.symm)]; exact k2 m
      · by_cases e8 : i = 8
        · subst e8; rw [upd_same]; exact n8 rfl X c Y d k1
        · rw [getD_set hs, if_neg e8] at m
          rw [upd_ne (fun x => e8 x.symm)]; exact k3 m
  · rw [getD_set hs, if_neg ni] at h11
    rw [getD_set hs] at hk
    by_cases e : i = 10
    · obtain ⟨_, gb, k⟩ := n10 e
      exact ⟨gb, by rw [← e, upd_same]; exact k.1, k.2⟩
    · rw [if_neg e] at hk
      obtain ⟨gb, k1, k2, k3⟩ := h.p10 h11 hk
      exact ⟨gb, by rw [upd_ne (fun x => e x.symm)]; exact k1, k2.step hb, k3⟩
  · rw [getD_set hs, if_neg ni] at hk
    have e : i ≠ 10 := fun e => by rw [(n10 e).1] at hk; cases hk
    obtain ⟨gb, X, c, Y, d, k1, k2, k3, k4⟩ := h.p11 hk
    exact ⟨gb, X, c, Y, d, by rw [upd_ne (fun x => e x.symm)]; exact k1, k2.step hb, k3, k4.step hb⟩
theorem MRI.quiet {p : PL} {flag : Bool} {s0 l0 ts vs : List Int} {r1 r2 : Int} {a0 a1 a2 : Value} {w0 : World} {listed : Array Bool} {T : Nat → Value} {u : World} (h : MRI p flag s0 l0 ts vs r1 r2 a0 a1 a2 w0 listed T u) {i : Nat} {v : Value} (hs : i < listed.size)
    (hi : i = 0 ∨ i = 2 ∨ i = 4 ∨ i = 9 ∨ i = 12) (hfv : ∀ x, mvVals a0 a1 a2 flag i = some x → v = x) : MRI p flag s0 l0 ts vs r1 r2 a0 a1 a2 w0 (listed.setIfInBounds i true) (upd T i v) u :=
  h.fresh hs (Below.refl _ _) hfv (fun e => by omega) (fun e => by omega) (fun e => by omega) (fun e => by omega) (fun e => by omega) (fun e => by omega) (fun e => by omega) (by omega)
theorem MRI.store {p : PL} {flag : Bool} {s0 l0 ts vs : List Int} {r1 r2 : Int} {a0 a1 a2 : Value} {w0 : World} {listed : Array Bool} {T : Nat → Value} {u : World} (h : MRI p flag s0 l0 ts vs r1 r2 a0 a1 a2 w0 listed T u) (hs : 11 < listed.size)
    (h6 : listed.getD 6 false = true) {gb : Nat} {X Y : Option Addr} {c d : Nat} (hT6 : T 6 = .tuple #[.agg #[.slice X p.1.length c, .slice Y p.2.length d], .bool flag]) (hT : T 10 = .pointer (some ⟨gb, 0, none⟩)) (hB : Box u gb #[.slice none 0 0, .slice none 0 0] 32) (hg : w0.heap.size ≤ gb)
    (hX : RI u X p.1) (hY : RI u Y p.2) : MRI p flag s0 l0 ts vs r1 r2 a0 a1 a2 w0 (listed.setIfInBounds 11 true) T ((u.setCell ⟨gb, 0, none⟩ (.slice X p.1.length c)).setCell ⟨gb, 1, none⟩ (.slice Y p.2.length d)) := by
  have s1 := hB.set 0 (.slice X p.1.length c)
  have s2 := s1.set 1 (.slice Y p.2.length d)
  have kX := ri_setBox (i := 1) (u := .slice Y p.2.length d) (ri_setBox (i := 0) (u := .slice X p.1.length c) hX hB) s1
  have kY := ri_setBox (i := 1) (u := .slice Y p.2.length d) (ri_setBox (i := 0) (u := .slice X p.1.length c) hY hB) s1
  have e6 : (listed.setIfInBounds 11 true).getD 6 false = true := getD_set_true h6
  refine ⟨Below.setCell (Below.setCell h.below hg _) hg _, fun k x hk hl => ?_, fun m => ?_, fun m => ?_, fun m => ?_, fun _ => ?_, fun m => ?_, fun _ => ⟨gb, X, c, Y, d, hT, s2, hg, kX, kY⟩⟩
  · rw [getD_set hs] at hl
    by_cases e : 11 = k
    · subst e; cases hk
    · rw [if_neg e] at hl
      exact h.fv k x hk hl
  · rw [e6] at m; cases m
  · rw [e6] at m; cases m
  · rw [e6] at m; cases m
  · obtain ⟨X', c', Y', d', k1, k2, k3, k4, k5⟩ := h.p6 h6
    rw [k1] at hT6
    simp only [Value.tuple.injEq, Array.mk.injEq, List.cons.injEq, Value.agg.injEq, Value.slice.injEq] at hT6
    obtain ⟨⟨⟨rfl, _, rfl⟩, ⟨rfl, _, rfl⟩, _⟩, _⟩ := hT6
    refine ⟨X', c', Y', d', k1, fun m => ?_, fun m => ?_, kX, kY⟩
    · rw [getD_set hs, if_neg (by decide)] at m; exact k2 m
    · rw [getD_set hs, if_neg (by decide)] at m; exact k3 m
  · rw [getD_set hs, if_pos rfl] at m; cases m
end Go.Proofs.Ytigakhkhjjbboaa
