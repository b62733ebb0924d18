/- What hasMethod answers. Conditions: none beyond each theorem's own. -/
import Derived.Test.YtcgmdleefaplfaaCmp
namespace Go.Proofs.Ytcgmdleefaplfaa
open Go.ChangeShapes Go.WideShapes Go.ChangeAt Go.RowKit Go.Sort
set_option linter.unusedVariables false
set_option linter.unusedSimpArgs false

set_option maxRecDepth 100000 in
set_option maxHeartbeats 1000000 in
theorem hasMethod_any (A : Option Addr) (c n : Nat) (x : Int) (hl : n ≤ 1048576) (w : World) :
    Calls Try.prog 66 #[.slice A n c, .int .i64 x] w fun e w' => e = .returned (.bool (inB x 0 ((n : Int) - 1))) ∧ w = w' := by
  have hl' : (n : Int) ≤ 1048576 := by omega
  go_enter Try.func66, Try.ntmps66
  go_wp2_with fail
  refine (isBetween_any x 0 ((n : Int) - 1) _).mono ?_
  rintro e w' ⟨rfl, rfl⟩
  go_wp2
  go_ret
  exact ⟨rfl, rfl⟩

end Go.Proofs.Ytcgmdleefaplfaa
