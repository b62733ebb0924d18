/- What impl.AddFact answers, over insertOnce. Conditions: none beyond each theorem's own. -/
import Derived.Test.YtenondgjipmhnaaOnceM
import Derived.Test.YtenondgjipmhnaaOnceF
import Derived.Test.YtenondgjipmhnaaInsF
namespace Go.Proofs.Ytenondgjipmhnaa
open Go.ChangeShapes Go.WideShapes Go.ChangeAt Go.RowKit Go.Sort
set_option linter.unusedVariables false
set_option linter.unusedSimpArgs false

/-- The end of an insertion: the new row, the new fact's numbers, the copies'. -/
theorem addOut_ins {w u w5 w6 : World} {lo : Nat} {l res : FL} {r : Int} {xs : List Int} {cs : List Value} {bs : Nat → Nat} {k q : Nat} {v : Value} {e : Ending}
    (hk : k ≤ l.length) (hres : res = l.take k ++ (r, xs) :: l.drop k) (hlo : w.heap.size ≤ lo) (hlou : lo ≤ u.heap.size)
    (hI : Items u lo u.heap.size l cs bs) (huw : Below u.heap.size u w5) (hv : OwnV w5 u.heap.size w5.heap.size v q xs) (hB : Below w.heap.size w w5)
    (ho : InsOut w5 98 2 (l.length + 1) (cs.take (k * 2) ++ [.int .i64 r, v] ++ cs.drop (k * 2)) e w6) : AddOut w res e w6 := by
  obtain ⟨G, he, hrow, hb⟩ := ho
  subst hres
  have hlen := ins_len l (r, xs) k hk
  have h5 : Items w5 lo u.heap.size l cs bs := hI.keep fun q _ h2 _ => huw.block q h2
  have h6 := h5.insert (r := r) hv hlou huw.size k hk
  have h7 : Items w6 lo w5.heap.size _ _ _ := h6.keep fun q _ h2 _ => hb.block q h2
  refine ⟨some ⟨w5.heap.size, 0, none⟩, G, _, _, by rw [hlen]; exact he, ⟨?_, h7.mono hlo hb.size⟩, hB.trans (hb.mono hB.size)⟩
  rw [hlen]
  exact ownsRow_low hrow (by have := hB.size; omega)

end Go.Proofs.Ytenondgjipmhnaa
