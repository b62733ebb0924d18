/- What the program's MatchAtom leaves. Conditions: none beyond each theorem's own. -/
import Derived.Test.YtpdmkdhnidgjoaaSpM
import Derived.Test.YtpdmkdhnidgjoaaExt
namespace Go.Proofs.Ytpdmkdhnidgjoaa
open Go.ChangeShapes Go.WideShapes Go.ChangeAt Go.RowKit Go.Sort
open Go.Maps (Keyed int_keyed keyOf_int_mk)
set_option linter.unusedVariables false
set_option linter.unusedSimpArgs false

theorem mst_mem {p q : PL} {t v x : Int} (h : mst p t v = some q) (hx : x ∈ q.1) : x ∈ p.1 ∨ x = t := by
  rcases mst_cases p t v with ⟨_, e⟩ | ⟨_, _, e⟩ | ⟨_, _, e⟩ <;> rw [e] at h
  · split at h
    · injection h with h; subst h; exact .inl hx
    · cases h
  · split at h
    · injection h with h; subst h; exact .inl hx
    · cases h
  · injection h with h
    subst h
    simpa using hx
theorem mgo_mem : ∀ (ts vs : List Int) (p q : PL), mgo p ts vs = some q → ∀ x ∈ q.1, x ∈ p.1 ∨ x ∈ ts
  | [], vs, p, q, h, x, hx => by rw [mgo_nil] at h; injection h with h; subst h; exact .inl hx
  | t :: ts, [], p, q, h, x, hx => by injection h with h; subst h; exact .inl hx
  | t :: ts, v :: vs, p, q, h, x, hx => by
    change (mst p t v).bind _ = _ at h
    cases hm : mst p t v with
    | none => rw [hm] at h; cases h
    | some r =>
      rw [hm] at h
      rcases mgo_mem ts vs r q h x hx with h1 | h1
      · rcases mst_mem hm h1 with h2 | h2
        · exact .inl h2
        · exact .inr (h2 ▸ List.mem_cons_self)
      · exact .inr (List.mem_cons_of_mem _ h1)

/-- What the program's MatchAtom answers. -/
def MatOwn (w : World) (r : Option PL) (e : Ending) (w' : World) : Prop :=
  ((r = none ∧ e = .returned (.tuple #[.agg #[.slice none 0 0, .slice none 0 0], .bool false])) ∨
   (∃ q X c Y d, r = some q ∧ e = .returned (.tuple #[.agg #[.slice X q.1.length c, .slice Y q.2.length d], .bool true]) ∧ RowV w' w.heap.size (.slice X q.1.length c) q.1 ∧ RowV w' w.heap.size (.slice Y q.2.length d) q.2 ∧ Apart (.slice X q.1.length c) (.slice Y q.2.length d))) ∧ Below w.heap.size w w' ∧ w.heap.size + 4 ≤ w'.heap.size

end Go.Proofs.Ytpdmkdhnidgjoaa
