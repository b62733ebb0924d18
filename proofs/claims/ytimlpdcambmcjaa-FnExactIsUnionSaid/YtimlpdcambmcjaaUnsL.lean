/- Lists of queries copied and compared by the laws. Conditions: none beyond each theorem's own. -/
import Derived.Test.YtimlpdcambmcjaaUns
import Derived.Test.YtimlpdcambmcjaaQM
import Derived.Lib.QuietBelow
namespace Go.Proofs.Ytimlpdcambmcjaa
open Go.ChangeShapes Go.WideShapes Go.ChangeAt Go.RowKit Go.Sort
set_option linter.unusedVariables false
set_option linter.unusedSimpArgs false

/-- Block g begins with the first k of the queries us, each in blocks of its own from p j to below q j, all from lo to below hi. -/
def OwnU (w : World) (lo hi g m k : Nat) (us : UL) : Prop :=
  lo ≤ g ∧ g < hi ∧ hi ≤ w.heap.size ∧ ∃ (F : Nat → Value) (p q : Nat → Nat), w.rowIs g 31 m F ∧ (∀ j, j < k → ∃ H ch B c mid, F (j * 2) = .slice H (us.getD j noU).1.length ch ∧ F (j * 2 + 1) = .slice B (us.getD j noU).2.length c ∧
      (us.getD j noU).2.length ≤ c ∧ c ≤ maxLen ∧ QO w (p j) mid (q j) H B ch c (us.getD j noU).1 (us.getD j noU).2 ∧ lo ≤ p j ∧ q j ≤ hi ∧ (g < p j ∨ q j ≤ g)) ∧
    (∀ i j, i < k → j < k → i ≠ j → q i ≤ p j ∨ q j ≤ p i)
theorem OwnU.keep {w w' : World} {lo hi g m k : Nat} {us : UL} (h : OwnU w lo hi g m k us) (hk : ∀ b, lo ≤ b → b < hi → w'.heap[b]? = w.heap[b]?) (hs : w.heap.size ≤ w'.heap.size) : OwnU w' lo hi g m k us := by
  obtain ⟨h1, h2, h3, F, p, q, hr, he, hd⟩ := h
  refine ⟨h1, h2, by omega, F, p, q, World.rowIs.of_block hr (hk g h1 h2), fun j hj => ?_, hd⟩
  obtain ⟨H, ch, B, c, mid, e0, e1, e2, e3, e4, e5, e6, e7⟩ := he j hj
  exact ⟨H, ch, B, c, mid, e0, e1, e2, e3, e4.keep (fun b a b' => hk b (by omega) (by omega)) hs, e5, e6, e7⟩
theorem OwnU.grow {w : World} {lo hi lo' hi' g m k : Nat} {us : UL} (h : OwnU w lo hi g m k us) (h1 : lo' ≤ lo) (h2 : hi ≤ hi') (h3 : hi' ≤ w.heap.size) : OwnU w lo' hi' g m k us := by
  obtain ⟨a1, a2, a3, F, p, q, hr, he, hd⟩ := h
  refine ⟨by omega, by omega, h3, F, p, q, hr, fun j hj => ?_, hd⟩
  obtain ⟨H, ch, B, c, mid, e0, e1, e2, e3, e4, e5, e6, e7⟩ := he j hj
  exact ⟨H, ch, B, c, mid, e0, e1, e2, e3, e4, by omega, by omega, e7⟩
theorem OwnU.step {w w' : World} {lo hi g m k : Nat} {us : UL} (h : OwnU w lo hi g m k us) (d : Below w.heap.size w w') : OwnU w' lo hi g m k us :=
  h.keep (fun b _ hb => d.block b (by have := h.2.2.1; omega)) d.size
theorem OwnU.uns {w : World} {lo hi g m : Nat} {us : UL} (h : OwnU w lo hi g m us.length us) (hm : us.length * 2 ≤ m) : Uns w lo hi (some ⟨g, 0, none⟩) us := fun _ => by
  obtain ⟨h1, h2, h3, F, p, q, hr, he, _⟩ := h
  refine ⟨g, 0, rfl, h1, h2, fun k hk => ?_⟩
  obtain ⟨H, ch, B, c, mid, e0, e1, e2, e3, e4, e5, e6, e7⟩ := he k hk
  obtain ⟨⟨r, hv⟩, ha, hm1, hm2, hm3⟩ := e4
  have hi1 := hv.ints
  refine ⟨H, ch, B, c, ?_, ?_, hi1.2.1, hi1.2.2.1, e2, e3, hi1.2.2.2.mono e5 (by omega), ?_⟩
  · rw [Nat.zero_add, World.rowIs.cell hr (show k * 2 < m by omega), e0]
  · rw [Nat.zero_add, World.rowIs.cell hr (show k * 2 + 1 < m by omega), e1]
  · rcases ha with ha | ⟨g', m', hB, ha, hm'⟩
    · rw [ha]; exact fun hne => absurd rfl hne
    · rw [hB]; exact (ha.facts hm').mono (by omega) e6
theorem OwnU.ru {w : World} {lo hi g m : Nat} {us : UL} (h : OwnU w lo hi g m us.length us) (hm : us.length * 2 ≤ m) : RU w (some ⟨g, 0, none⟩) us := (h.uns hm).mono (Nat.zero_le _) h.2.2.1

/-- One query more is stored. -/
theorem ownU_step {wr u : World} {lo g m k : Nat} {us : UL} (h : OwnU wr lo wr.heap.size g m k us) (hkm : k * 2 + 1 < m) {hs : List Int} {l : FL} (hf : us.getD k noU = (hs, l)) (hb : Below wr.heap.size wr u)
    {H B : Option Addr} {ch c mid p q : Nat} (hQ : QO u p mid q H B ch c hs l) (hp : wr.heap.size ≤ p) (hlc : l.length ≤ c) (hcm : c ≤ maxLen) :
    OwnU ((u.setCell ⟨g, k * 2, none⟩ (.slice H hs.length ch)).setCell ⟨g, k * 2 + 1, none⟩ (.slice B l.length c)) lo ((u.setCell ⟨g, k * 2, none⟩ (.slice H hs.length ch)).setCell ⟨g, k * 2 + 1, none⟩ (.slice B l.length c)).heap.size g m (k + 1) us := by
  have hsz : ((u.setCell ⟨g, k * 2, none⟩ (.slice H hs.length ch)).setCell ⟨g, k * 2 + 1, none⟩ (.slice B l.length c)).heap.size = u.heap.size := size2 _ _ _ _ _
  rw [hsz]
  obtain ⟨h1, h2, h3, F, P, Q, hr, he, hd⟩ := h
  have hs' := hb.size
  have hr2 : u.rowIs g 31 m F := World.rowIs.of_block hr (hb.block g h2)
  have far : ∀ b, b ≠ g → ((u.setCell ⟨g, k * 2, none⟩ (.slice H hs.length ch)).setCell ⟨g, k * 2 + 1, none⟩ (.slice B l.length c)).heap[b]? = u.heap[b]? := fun b hbg =>
    (Below.heap_setCell _ ⟨g, k * 2 + 1, none⟩ _ b hbg).trans (Below.heap_setCell _ ⟨g, k * 2, none⟩ _ b hbg)
  have hq3 := hQ.2.2
  refine ⟨h1, by omega, by rw [hsz]; omega, _, fun j => if j = k then p else P j, fun j => if j = k then q else Q j, (hr2.set (k * 2) _).set (k * 2 + 1) _, fun j hj => ?_, fun i j hi hj hij => ?_⟩
  · by_cases e : j = k
    · subst e
      have t1 : ¬ (j * 2 = j * 2 + 1) := by omega
      refine ⟨H, ch, B, c, mid, ?_, ?_, ?_, hcm, ?_, ?_, ?_, ?_⟩
      · simp only [if_pos, t1, if_false, hf]
      · simp only [if_pos, hf]
      · rw [hf]; exact hlc
      · dsimp only
        rw [hf, if_pos rfl, if_pos rfl]
        exact hQ.keep (fun b a _ => far b (by omega)) (by rw [hsz]; exact Nat.le_refl _)
      · dsimp only
        rw [if_pos rfl]; omega
      · dsimp only
        rw [if_pos rfl]; omega
      · dsimp only
        rw [if_pos rfl, if_pos rfl]; exact .inl (by omega)
    · have t1 : ¬ (j * 2 = k * 2 + 1) := by omega
      have t2 : ¬ (j * 2 = k * 2) := by omega
      have t3 : ¬ (j * 2 + 1 = k * 2 + 1) := by omega
      have t4 : ¬ (j * 2 + 1 = k * 2) := by omega
      obtain ⟨H', ch', B', c', mid', e0, e1, e2, e3, e4, e5, e6, e7⟩ := he j (by omega)
      refine ⟨H', ch', B', c', mid', ?_, ?_, e2, e3, ?_, ?_, ?_, ?_⟩
      · simp only [t1, t2, if_false]; exact e0
      · simp only [t3, t4, if_false]; exact e1
      · dsimp only
        rw [if_neg e, if_neg e]
        have e4' : QO u (P j) mid' (Q j) H' B' ch' c' (us.getD j noU).1 (us.getD j noU).2 := e4.keep (fun b _ hb' => hb.block b (by omega)) hs'
        exact e4'.keep (fun b a a' => far b (by omega)) (by rw [hsz]; exact Nat.le_refl _)
      · dsimp only
        rw [if_neg e]; exact e5
      · dsimp only
        rw [if_neg e]; omega
      · dsimp only
        rw [if_neg e, if_neg e]; exact e7
  · by_cases e : j = k
    · subst e
      have e' : i ≠ j := hij
      dsimp only
      rw [if_neg e', if_pos rfl, if_pos rfl, if_neg e']
      obtain ⟨H', ch', B', c', mid', _, _, _, _, e4, _, e6, _⟩ := he i (by omega)
      exact .inl (by omega)
    · by_cases e' : i = k
      · subst e'
        dsimp only
        rw [if_pos rfl, if_neg e, if_neg e, if_pos rfl]
        obtain ⟨H', ch', B', c', mid', _, _, _, _, e4, _, e6, _⟩ := he j (by omega)
        exact .inr (by omega)
      · dsimp only
        rw [if_neg e', if_neg e, if_neg e, if_neg e']
        exact hd i j (by omega) (by omega) hij

set_option maxHeartbeats 1000000 in
set_option maxRecDepth 100000 in
theorem toQueryS_any (A : Option Addr) (c : Nat) (us : UL) (hz : szU us ≤ 1048576) (w : World) (h : RU w A us) :
    Calls Try.prog 18 #[.slice A us.length c] w fun e w' => e = .returned (.slice (some ⟨w.heap.size, 0, none⟩) us.length us.length) ∧ OwnU w' w.heap.size w'.heap.size w.heap.size (us.length * 2) us.length us ∧ Below w.heap.size w w' ∧ w.heap.size < w'.heap.size := by
  have hl := szU_len hz
  obtain ⟨C, hCs, hmk⟩ := makeQueries us.length hl
  have HI := Lib.hid h
  have HS := Lib.hid hCs
  clear h hCs
  have hl' : (us.length : Int) ≤ 1048576 := by omega
  go_enter Try.func18, Try.ntmps18
  go_wp2
  go_loopw [4] (fun i wr => ∃ k : Nat, k ≤ us.length ∧ i = .int .i64 k ∧ OwnU wr w.heap.size wr.heap.size w.heap.size (us.length * 2) k us ∧ Below w.heap.size w wr) (fun i _ => us.length - (intOf i).toNat)
  case atStart =>
    refine ⟨0, by omega, rfl, ⟨Nat.le_refl _, by simp, Nat.le_refl _, fun i => C.getD i undef, fun _ => 0, fun _ => 0, ⟨C, by rw [heap_alloc_new], HS.out, fun i hi => by simp only [Array.getD_eq_getD_getElem?, Array.getElem?_eq_getElem (show i < C.size by rw [HS.out]; exact hi)]; rfl⟩, fun j hj => by omega, fun i j hi _ _ => by omega⟩, below_alloc _ _⟩
  case round =>
    obtain ⟨k, hk, rfl, ho, hb⟩ := hrel
    have HO := Lib.hid ho
    clear ho
    by_cases hlt : k < us.length
    · generalize hf : us.getD k noU = f
      obtain ⟨hs, l⟩ := f
      have HF := Lib.hid hf
      obtain ⟨_, hhl, hll⟩ := szU_elem hz hlt hf
      have hll2 := szF_len hll
      obtain ⟨b, off, H, ch, B, c2, rfl, _, e0, e1, hxc, hcm, _, _, hI, hJ⟩ := (HI.out.step hb).at_ hlt hf
      clear hf
      have HX := Lib.hid hI
      have HY := Lib.hid hJ
      clear hI hJ
      go_wp2_with fail
      refine (toQuery_r H B ch c2 hs l hhl hll _ HX.out HY.out).mono ?_
      rintro e u ⟨rfl, hr, d, hz⟩
      have hg : w.heap.size < wr.heap.size := HO.out.2.1
      obtain ⟨F, p, q, hrow, _, _⟩ := HO.out.2.2.2
      have hrow2 : u.rowIs w.heap.size 31 (us.length * 2) F := World.rowIs.of_block hrow (d.block _ hg)
      have q0 := hrow2.cell (show k * 2 < us.length * 2 by omega)
      have q1 := hrow2.cell (show k * 2 + 1 < us.length * 2 by omega)
      have q2 := hrow2.frozen (k * 2)
      have q3 := hrow2.frozen (k * 2 + 1)
      have HR := Lib.hid (hr.qo hhl)
      clear hrow hrow2 hr
      go_wp2
      go_roundw
      case rel =>
        refine ⟨k + 1, by omega, by go_num, ownU_step HO.out (by omega) HF.out d HR.out (by omega) (Nat.le_refl _) (by unfold maxLen; omega), ?_⟩
        exact ((hb.trans (d.mono hb.size)).setCell (Nat.le_refl _) _).setCell (Nat.le_refl _) _
      case measure => simp [intOf]; omega
    · obtain rfl : k = us.length := by omega
      go_wp2
      go_ret
      exact ⟨rfl, HO.out, hb, HO.out.2.1⟩
theorem toQueryS_r (A : Option Addr) (c : Nat) (us : UL) (hz : szU us ≤ 1048576) (w : World) (h : RU w A us) :
    Calls Try.prog 18 #[.slice A us.length c] w fun e w' => e = .returned (.slice (some ⟨w.heap.size, 0, none⟩) us.length us.length) ∧ RU w' (some ⟨w.heap.size, 0, none⟩) us ∧ Below w.heap.size w w' ∧ w.heap.size < w'.heap.size :=
  (toQueryS_any A c us hz w h).mono fun _ _ ⟨a, b, c, d⟩ => ⟨a, b.ru (Nat.le_refl _), c, d⟩

set_option maxRecDepth 100000 in
set_option maxHeartbeats 1000000 in
theorem eqQueryS_r (A A' : Option Addr) (c c' : Nat) (us : UL) (hz : szU us ≤ 1048576) (w : World) (h : RU w A us) (h' : RU w A' us) :
    Calls Try.prog 20 #[.slice A us.length c, .slice A' us.length c'] w fun e w' => e = .returned (.bool true) ∧ Below w.heap.size w w' := by
  have hl := szU_len hz
  have hl' : (us.length : Int) ≤ 1048576 := by omega
  have HI := Lib.hid h
  have HJ := Lib.hid h'
  clear h h'
  go_enter Try.func20, Try.ntmps20
  go_wp2
  go_loopw [5] (fun i wr => ∃ k : Nat, k ≤ us.length ∧ i = .int .i64 k ∧ Below w.heap.size w wr) (fun i _ => us.length - (intOf i).toNat)
  case atStart => exact ⟨0, by omega, rfl, Below.refl _ _⟩
  case round =>
    obtain ⟨k, hk, rfl, hb⟩ := hrel
    by_cases hlt : k < us.length
    · generalize hf : us.getD k noU = f
      obtain ⟨hs, l⟩ := f
      obtain ⟨_, hhl, hll⟩ := szU_elem hz hlt hf
      obtain ⟨b, off, H, ch, B, c2, rfl, n1, e0, e1, _, _, _, _, hI, hF⟩ := (HI.out.step hb).at_ hlt hf
      obtain ⟨b', off', H', ch', B', c2', rfl, n2, e0', e1', _, _, _, _, hI', hF'⟩ := (HJ.out.step hb).at_ hlt hf
      have X1 := Lib.hid fun (W : World) (hW : Below wr.heap.size wr W) => eqQuery_b H B H' B' ch c2 ch' c2' hs l hhl (by omega) W (hI.step hW) (hF.step hW) (hI'.step hW) (hF'.step hW)
      clear hf hI hI' hF hF'
      have hk0 : (0 : Int) ≤ (k : Int) := by omega
      have hk1 : (k : Int) < (us.length : Int) := by omega
      have k0 := cell_regrown e0
      have k1 := cell_regrown e1
      have k0' := cell_regrown e0'
      have k1' := cell_regrown e1'
      go_wp2
      refine wp_region_quiet_below (by kernel_rfl) (by kernel_rfl) ?_
      repeat (go_big_quiet_step (first | (go_at_call 13; with_reducible exact Calls.regrown_of (X1.out _ (below_regrown _ _ _)))))
      refine wpQuiet_nil ?_
      intro u hw'
      have hb2 := step hb (show Below wr.heap.size wr u by obtain ⟨⟨dq, osq⟩, rfl⟩ := hw'; exact below_regrown _ _ _)
      clear hw' k0 k1 k0' k1'
      go_wp2
      go_roundw
      case rel => exact ⟨k + 1, by omega, by go_num, hb2⟩
      case measure => simp [intOf]; omega
    · obtain rfl : k = us.length := by omega
      go_wp2
      go_ret
      exact ⟨rfl, hb⟩
end Go.Proofs.Ytimlpdcambmcjaa
