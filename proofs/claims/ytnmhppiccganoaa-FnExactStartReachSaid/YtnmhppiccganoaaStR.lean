/- What the two functions StartReach answer: the values among the seeds, ascending. Conditions: none beyond each theorem's own. -/
import Derived.Test.YtnmhppiccganoaaRch
import Derived.Test.YtnmhppiccganoaaQH
namespace Go.Proofs.Ytnmhppiccganoaa
open Go.ChangeShapes Go.WideShapes Go.ChangeAt Go.RowKit Go.Sort
set_option linter.unusedVariables false
set_option linter.unusedSimpArgs false

/-- Lists that ascend and hold the same numbers are equal. -/
theorem asc_ext : ∀ (l l' : List Int), Asc l → Asc l' → (∀ x, x ∈ l ↔ x ∈ l') → l = l'
  | [], [], _, _, _ => rfl
  | [], y :: ys, _, _, h => by have := (h y).2 (by simp); simp at this
  | x :: xs, [], _, _, h => by have := (h x).1 (by simp); simp at this
  | x :: xs, y :: ys, h1, h2, h => by
    have a1 : (∀ b ∈ xs, x < b) ∧ Asc xs := by simpa [Asc, List.pairwise_cons] using h1
    have a2 : (∀ b ∈ ys, y < b) ∧ Asc ys := by simpa [Asc, List.pairwise_cons] using h2
    have e : x = y := by
      have hx := (h x).1 (by simp)
      have hy := (h y).2 (by simp)
      rcases List.mem_cons.1 hx with rfl | hx
      · rfl
      · rcases List.mem_cons.1 hy with rfl | hy
        · rfl
        · have := a1.1 y hy; have := a2.1 x hx; omega
    subst e
    rw [asc_ext xs ys a1.2 a2.2 fun b => ?_]
    constructor
    · intro hb
      rcases List.mem_cons.1 ((h b).1 (by simp [hb])) with rfl | hb'
      · have := a1.1 b hb; omega
      · exact hb'
    · intro hb
      rcases List.mem_cons.1 ((h b).2 (by simp [hb])) with rfl | hb'
      · have := a2.1 b hb; omega
      · exact hb'

/-- The numbers of xs from 0 to below n, in order. -/
def vUp (xs : List Int) : Nat → List Int
  | 0 => []
  | n + 1 => if (n : Int) ∈ xs then vUp xs n ++ [(n : Int)] else vUp xs n
theorem vUp_yes {xs : List Int} {n : Nat} (h : decide ((n : Int) ∈ xs) = true) : vUp xs (n + 1) = vUp xs n ++ [(n : Int)] := by simp only [vUp]; rw [if_pos (by simpa using h)]
theorem vUp_no {xs : List Int} {n : Nat} (h : decide ((n : Int) ∈ xs) = false) : vUp xs (n + 1) = vUp xs n := by simp only [vUp]; rw [if_neg (by simpa using h)]
theorem vUp_mem (xs : List Int) : ∀ (n : Nat) (x : Int), x ∈ vUp xs n ↔ x ∈ xs ∧ 0 ≤ x ∧ x < n
  | 0, x => by
    simp only [vUp]
    constructor
    · intro h; simp at h
    · rintro ⟨_, h1, h2⟩; omega
  | n + 1, x => by
    simp only [vUp]
    split
    · rename_i h
      rw [List.mem_append, vUp_mem xs n x]
      simp only [List.mem_singleton]
      constructor
      · rintro (⟨h1, h2, h3⟩ | rfl)
        · exact ⟨h1, h2, by omega⟩
        · exact ⟨h, by omega, by omega⟩
      · rintro ⟨h1, h2, h3⟩
        by_cases hx : x = n
        · exact .inr hx
        · exact .inl ⟨h1, h2, by omega⟩
    · rename_i h
      rw [vUp_mem xs n x]
      constructor
      · rintro ⟨h1, h2, h3⟩
        exact ⟨h1, h2, by omega⟩
      · rintro ⟨h1, h2, h3⟩
        refine ⟨h1, h2, ?_⟩
        rcases Int.lt_or_le x n with h4 | h4
        · exact h4
        · exact absurd (show (n : Int) ∈ xs by rwa [show (n : Int) = x by omega]) h
theorem vUp_asc (xs : List Int) : ∀ n : Nat, Asc (vUp xs n)
  | 0 => List.Pairwise.nil
  | n + 1 => by
    simp only [vUp]
    split
    · refine List.pairwise_append.2 ⟨vUp_asc xs n, List.pairwise_singleton _ _, fun a ha b hb => ?_⟩
      simp at hb
      subst hb
      exact ((vUp_mem xs n a).1 ha).2.2
    · exact vUp_asc xs n
theorem vUp_len (xs : List Int) : ∀ n : Nat, (vUp xs n).length ≤ n
  | 0 => by simp [vUp]
  | n + 1 => by
    have := vUp_len xs n
    simp only [vUp]
    split <;> simp <;> omega
theorem vUp_wl (xs : List Int) : vUp xs 10 = wl 0 9 xs :=
  asc_ext _ _ (vUp_asc _ _) (wl_asc _ _ _) fun x => by
    rw [vUp_mem, wl_mem]
    simp [inB]
    intro _ _
    omega

set_option maxRecDepth 100000 in
set_option maxHeartbeats 1000000 in
theorem valuesAmong_any (A : Option Addr) (c : Nat) (xs : List Int) (hl : xs.length ≤ 1048576) (w : World) (h : RI w A xs) :
    Calls Try.prog 19 #[.slice A xs.length c] w (ListT w (wl 0 9 xs)) := by
  obtain ⟨i0, hi, hz0, hz1, hz2⟩ := info_parts int_info
  have HI := Lib.hid h
  clear h
  rw [← vUp_wl]
  go_enter Try.func19, Try.ntmps19
  go_wp2
  go_loopw [3, 4, 5] (fun o _ i wr => ∃ (k : Nat) (v : Value), k ≤ 10 ∧ i = .int .i64 k ∧ v = o ∧ Hid (wr.ownsRow w.heap.size 3 1 v (vUp xs k).length ((vUp xs k).map (Value.int .i64))) ∧ Hid (Below w.heap.size w wr)) (fun _ _ i _ => 10 - (intOf i).toNat)
  case atStart => exact ⟨0, _, by omega, rfl, rfl, Lib.hid (World.ownsRow_nil _ _ _ _), Lib.hid (Below.refl _ _)⟩
  case round =>
    obtain ⟨k, v, hk, rfl, rfl, hO, hB⟩ := hrel
    have hn := vUp_len xs k
    by_cases hlt : k < 10
    · have XC := Lib.hid (contains_any _ _ A c xs k hl wr (HI.out.step hB.out))
      by_cases hc : decide ((k : Int) ∈ xs) = true
      · have C := Lib.hid hc
        have E := Lib.hid (vUp_yes hc)
        have hbs := hB.out.size
        clear hc
        go_wp2_with fail
        refine XC.out.mono ?_
        rintro e w1 ⟨he, rfl⟩
        rw [C.out] at he
        subst he
        go_wp2_with (at_builtin; refine wpList_push rfl _ _ _ 3 rfl i0 Try.underlying22 hi (.int .i64 0) 8 hz0 hz1 hz2 rfl (by omega) rfl rfl rfl hO.out hB.out hbs (by omega) ?_; intro v' w' hown' hb' hsz')
        go_roundw
        case rel => exact ⟨k + 1, v', by omega, by go_num, rfl, Lib.hid (by rw [E.out, List.length_append, List.map_append]; exact hown'), Lib.hid hb'⟩
        case measure => simp [intOf]; omega
      · have C := Lib.hid (show decide ((k : Int) ∈ xs) = false by simpa using hc)
        have E := Lib.hid (vUp_no C.out)
        clear hc
        go_wp2_with fail
        refine XC.out.mono ?_
        rintro e w1 ⟨he, rfl⟩
        rw [C.out] at he
        subst he
        go_wp2
        go_roundw
        case rel => exact ⟨k + 1, v, by omega, by go_num, rfl, Lib.hid (by rw [E.out]; exact hO.out), hB⟩
        case measure => simp [intOf]; omega
    · obtain rfl : k = 10 := by omega
      go_wp2
      go_ret
      exact ⟨v, rfl, hO.out, hB.out⟩

theorem ints_set {w : World} {lo : Nat} {A : Option Addr} {xs : List Int} (h : Ints w lo w.heap.size A xs) {p : Addr} (hp : p.block < lo) (u : Value) : Ints (w.setCell p u) lo (w.setCell p u).heap.size A xs := by
  rw [set_size]
  exact h.keep fun b h1 _ => Below.heap_setCell _ _ _ _ (by omega)
theorem gv_set {w : World} {lo : Nat} {A : Option Addr} {c : Nat} {xs : List Int} (h : GV w lo w.heap.size A c xs) {p : Addr} (hp : p.block < lo) (u : Value) : GV (w.setCell p u) lo (w.setCell p u).heap.size A c xs := by
  rw [set_size]
  exact h.keep (fun b h1 _ => Below.heap_setCell _ _ _ _ (by omega)) (by rw [set_size]; exact Nat.le_refl _)
theorem GV.lo {w : World} {lo lo' hi : Nat} {A : Option Addr} {c : Nat} {xs : List Int} (h : GV w lo hi A c xs) (hl : lo' ≤ lo) : GV w lo' hi A c xs := by
  obtain ⟨⟨q, h1⟩, h2, h3⟩ := h
  exact ⟨⟨q, h1.mono hl (Nat.le_refl _)⟩, h2, by omega⟩
/-- What StartReach of the model returns. -/
def StartS (w : World) (xs : List Int) (e : Ending) (w' : World) : Prop := ∃ V d, e = .returned (.agg #[.slice none 0 0, .slice V xs.length d, .slice none 0 0, .int .i64 0]) ∧ Ints w' w.heap.size w'.heap.size V xs ∧ Below w.heap.size w w'
/-- What StartReach of the program returns. -/
def StartI (w : World) (xs : List Int) (e : Ending) (w' : World) : Prop := ∃ V d, e = .returned (.agg #[.slice none 0 0, .slice V xs.length d, .slice none 0 0, .int .i64 0]) ∧ GV w' w.heap.size w'.heap.size V d xs ∧ Below w.heap.size w w'

set_option maxRecDepth 100000 in
set_option maxHeartbeats 1000000 in
theorem impl_StartReach (A : Option Addr) (c : Nat) (xs : List Int) (hl : xs.length ≤ 1048576) (w : World) (h : RI w A xs) :
    Calls Try.prog 7 #[.slice A xs.length c] w (StartI w (wl 0 9 xs)) := by
  have XV := Lib.hid fun (W : World) (hW : RI W A xs) => valuesAmong_any A c xs hl W hW
  have HI := Lib.hid h
  clear h
  go_enter Try.func7, Try.ntmps7
  go_wp2_with fail
  refine (XV.out _ (HI.out.step (below_alloc _ _))).mono ?_
  rintro e w1 ⟨v, rfl, hown, d⟩
  have X := Box.of_new d
  have D := Lib.hid (below_new d)
  obtain ⟨V, dd, rfl⟩ := ownsRow_form hown
  have HO := Lib.hid hown
  have e0 := X.cell 0
  have e1 := X.cell 1
  have e2 := X.cell 2
  have e3 := X.cell 3
  have f0 := X.frozen 0
  have f1 := X.frozen 1
  have f2 := X.frozen 2
  have f3 := X.frozen 3
  have hlt := X.lt
  simp only [List.getElem?_toArray, List.getElem?_cons_zero, List.getElem?_cons_succ] at e0 e1 e2 e3
  have hgt : w.heap.size < w1.heap.size := hlt
  clear d X hown
  go_wp2
  refine bodyPost_ret (v := .agg #[.slice none 0 0, .slice V (wl 0 9 xs).length dd, .slice none 0 0, .int .i64 0]) (by simp [results, Try.results7, go_sem, e0, e1, e2, e3, f0, f1, f2, f3, hgt]) rfl ?_
  refine ⟨V, dd, rfl, ?_, ?_⟩
  · refine GV.lo (lo := w.heap.size + 1) ?_ (Nat.le_succ _)
    refine gv_set (gv_set (gv_set (gv_set ?_ ?_ _) ?_ _) ?_ _) ?_ _
    · obtain ⟨q, hv⟩ := ownV_of_row HO.out
      rw [al_size] at hv
      exact ⟨⟨q, hv⟩, Nat.le_refl _, hgt⟩
    all_goals exact Nat.lt_succ_self _
  · repeat (refine Below.setCell ?_ (by (try simp) <;> omega) _)
    exact D.out

/-- A call of two arguments as one step of a region that draws. -/
theorem callP2 {P : Program} {ops : Array Oper} {o : Oper} {a : Act} {w : World} {K : Act → World → Prop} {Q : Exit → Act → World → Prop} {E : Prop}
    (hgd : o.guard = none) (g : FuncId) (x y : Operand) (t t' : TypeId) (ho : o.op = .call { callee := .value (.func g), args := #[x, y], argTypes := #[t, t'] })
    (vx vy : Value) (hx : a.eval x = vx) (hy : a.eval y = vy) (hcf : (callFunc g #[vx, vy]).run P w = .ok (.enter g #[vx, vy]) w) {R : Value → World → Prop} (hc : Calls P g #[vx, vy] w fun e w' => ∃ v, e = .returned v ∧ R v w') (hK : ∀ v w', R v w' → K (a.put o.dst v) w') :
    if Region.wanted o (yielded ops a.tmps) = true then Oper.wp P o a w K Q else E := by
  have hw : Region.wanted o (yielded ops a.tmps) = true := by simp [Region.wanted, hgd]
  rw [if_pos hw]
  unfold Oper.wp
  have hf : a.eval (.func g) = Value.func (.func g) #[] #[] := rfl
  have e : (execOp a.eval o).run P w = .ok (.enter g #[vx, vy]) w := by
    rw [← hx, ← hy] at hcf ⊢
    simpa [go_sem, execOp, ho, resolve, invoke] using hcf
  rw [e, Oper.upon_enter]
  refine hc.mono ?_
  rintro _ w' ⟨v, rfl, d⟩
  exact hK v w' d

abbrev RZ0 : Array Value := #[.slice none 0 0, .slice none 0 0, .slice none 0 0, .int .i64 0]
set_option maxRecDepth 100000 in
set_option maxHeartbeats 2000000 in
theorem spec_StartReach (A : Option Addr) (c : Nat) (xs : List Int) (hl : xs.length ≤ 1048576) (w : World) (h : RI w A xs) :
    Calls Try.prog 5 #[.slice A xs.length c] w (StartS w (wl 0 9 xs)) := by
  have hl' : (xs.length : Int) ≤ 1048576 := by omega
  have HI := Lib.hid h
  have X0 := Lib.hid ((Box.new w #[.slice none 0 0, .slice none 0 0, .slice none 0 0, .int .i64 0] 26).step (below_alloc _ (.cells #[.slice none 0 0, .slice none 0 0, .slice none 0 0, .int .i64 0] 26)))
  have X1 := Box.new (w.alloc (.cells #[.slice none 0 0, .slice none 0 0, .slice none 0 0, .int .i64 0] 26)) #[.slice none 0 0, .slice none 0 0, .slice none 0 0, .int .i64 0] 26
  rw [al_size] at X1
  have B0 := Lib.hid (step (below_alloc w (.cells #[.slice none 0 0, .slice none 0 0, .slice none 0 0, .int .i64 0] 26)) (below_alloc _ (.cells #[.slice none 0 0, .slice none 0 0, .slice none 0 0, .int .i64 0] 26)))
  have Y1 := Lib.hid X1
  clear h X1
  go_enter Try.func5, Try.ntmps5
  go_wp2
  go_loopw [4] (fun i wr => ∃ (k : Nat) (V : Option Addr) (d : Nat) (out : List Int), k ≤ xs.length ∧ i = .int .i64 k ∧ Hid (out = wl 0 9 (xs.take k)) ∧ Hid (Ints wr (w.heap.size + 2) wr.heap.size V out) ∧ Hid (Box wr w.heap.size #[.slice none 0 0, .slice none 0 0, .slice none 0 0, .int .i64 0] 26) ∧ Hid (Box wr (w.heap.size + 1) #[.slice none 0 0, .slice V out.length d, .slice none 0 0, .int .i64 0] 26) ∧ Hid (Below w.heap.size w wr)) (fun i _ => xs.length - (intOf i).toNat)
  case atStart => exact ⟨0, none, 0, [], by omega, rfl, Lib.hid rfl, Lib.hid fun hne => absurd rfl hne, by first | exact X0 | trace_state, by first | exact Y1 | trace_state, B0⟩
  case round =>
    obtain ⟨k, V, d, out, hk, rfl, hO, hI, hX, hY, hB⟩ := hrel
    have hk0 : (0 : Int) ≤ (k : Int) := by omega
    by_cases hlt : k < xs.length
    · have hk1 : (k : Int) < (xs.length : Int) := by omega
      obtain ⟨b, off, rfl, hb, hc0⟩ := HI.out.at_ hlt
      have hc := (hB.out.cell (p := ⟨b, off + k, none⟩) hb).trans hc0
      generalize hx : xs.getD k 0 = x at hc
      have TX := Lib.hid (takeI xs hlt hx)
      have hol := len_hid hO.out (by omega)
      clear hx hc0
      by_cases hin : inB x 0 9 = true
      · have HN := Lib.hid hin
        have O2 := Lib.hid (show putI out x = wl 0 9 (xs.take (k + 1)) by rw [TX.out, wl_yes _ hin, hO.out])
        have hY1 := hY.out.lt
        have XP := Lib.hid fun (W : World) (hW : Below wr.heap.size wr W) => l3Put_any (w.heap.size + 2) V d out x (by omega) W (by have := hW.size; omega) ((hI.out.below hW (Nat.le_refl _)).mono (Nat.le_refl _) hW.size)
        have g1 := hY.out.cell 1
        have f1 := hY.out.frozen 1
        simp only [List.getElem?_toArray, List.getElem?_cons_zero, List.getElem?_cons_succ] at g1
        clear hin
        go_wp2_with fail
        refine (l1In_any x 0 9 _).mono ?_
        rintro e w' ⟨rfl, rfl⟩
        rw [HN.out]
        go_wp2
        go_region_law (first
          | (refine callP2 rfl 18 _ _ _ _ rfl (.slice V out.length d) (.int .i64 x) rfl rfl (by kernel_rfl) (R := fun v w' => ∃ A c, v = .slice A (putI out x).length c ∧ Ints w' (w.heap.size + 2) w'.heap.size A (putI out x) ∧ Below wr.heap.size wr w') (by
               refine (XP.out _ (by first | exact Below.refl _ _ | exact below_drew _)).mono ?_
               rintro e w' ⟨A, c, rfl, h1, h2⟩
               exact ⟨_, rfl, A, c, rfl, h1, by first | exact h2 | exact und h2⟩) ?_
             rintro v3 u3 ⟨A3, c3, rfl, hi3, d3⟩
             have I3 := Lib.hid hi3
             have D3 := Lib.hid d3
             have X3 := Lib.hid (hX.out.step d3)
             have Y3 := Lib.hid (hY.out.step d3)
             have y1 := Y3.out.cell 1
             have z1 := Y3.out.frozen 1
             simp only [List.getElem?_toArray, List.getElem?_cons_zero, List.getElem?_cons_succ] at y1
             clear hi3 d3))
        all_goals
          clear g1 f1 y1 z1
          go_wp2
          go_roundw
          case rel =>
            refine ⟨k + 1, A3, c3, putI out x, by omega, by go_num, O2, Lib.hid (ints_set I3.out (by (try simp) <;> omega) _), Lib.hid ?_, Lib.hid ?_, Lib.hid ((step hB.out D3.out).setCell (by (try simp) <;> omega) _)⟩
            · exact X3.out.set_other (by simp)
            · have := Y3.out.set 1 (.slice A3 (putI out x).length c3)
              simpa using this
          case measure => simp [intOf]; omega
      · have hin' : inB x 0 9 = false := by simpa using hin
        have HN := Lib.hid hin'
        have O2 := Lib.hid (show out = wl 0 9 (xs.take (k + 1)) by rw [TX.out, wl_no _ hin', hO.out])
        clear hin hin'
        go_wp2_with fail
        refine (l1In_any x 0 9 _).mono ?_
        rintro e w' ⟨rfl, rfl⟩
        rw [HN.out]
        go_wp2
        go_roundw
        case rel => exact ⟨k + 1, V, d, out, by omega, by go_num, O2, hI, hX, hY, hB⟩
        case measure => simp [intOf]; omega
    · obtain rfl : k = xs.length := by omega
      have O2 := Lib.hid (show out = wl 0 9 xs by rw [hO.out, take_all])
      have g0 := hY.out.cell 0
      have g1 := hY.out.cell 1
      have g2 := hY.out.cell 2
      have g3 := hY.out.cell 3
      have hY1 := hY.out.lt
      have f0 := hX.out.frozen 0
      have f1 := hX.out.frozen 1
      have f2 := hX.out.frozen 2
      have f3 := hX.out.frozen 3
      have e0 := hX.out.cell 0
      have e1 := hX.out.cell 1
      have e2 := hX.out.cell 2
      have e3 := hX.out.cell 3
      simp only [List.getElem?_toArray, List.getElem?_cons_zero, List.getElem?_cons_succ] at g0 g1 g2 g3 e0 e1 e2 e3
      go_wp2
      refine bodyPost_ret (v := .agg #[.slice none 0 0, .slice V out.length d, .slice none 0 0, .int .i64 0]) (by simp [results, Try.results5, go_sem, e0, e1, e2, e3, f0, f1, f2, f3]) rfl ?_
      refine ⟨V, d, congrArg (fun o : List Int => Ending.returned (.agg #[.slice none 0 0, .slice V o.length d, .slice none 0 0, .int .i64 0])) O2.out, ?_, ?_⟩
      · rw [← O2.out]
        refine Ints.mono (lo := w.heap.size + 2) ?_ (by omega) (Nat.le_refl _)
        refine ints_set (ints_set (ints_set (ints_set hI.out ?_ _) ?_ _) ?_ _) ?_ _
        all_goals (first | exact (show w.heap.size < w.heap.size + 2 by omega))
      · repeat (refine Below.setCell ?_ (by (try simp) <;> omega) _)
        exact hB.out
theorem StartS.toV {w : World} {xs : List Int} {e : Ending} {w' : World} (h : StartS w xs e w') : ∃ V d, e = .returned (.agg #[.slice none 0 0, .slice V xs.length d, .slice none 0 0, .int .i64 0]) ∧ IV w' w.heap.size w'.heap.size V xs ∧ Below w.heap.size w w' := by
  obtain ⟨V, d, he, hi, hb⟩ := h
  exact ⟨V, d, he, ⟨hi, Nat.le_refl _⟩, hb⟩
end Go.Proofs.Ytnmhppiccganoaa
