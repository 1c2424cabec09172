/-
  The walk of All.
-/
import Derived.Test.YtgegkcjllliifabDoorLawUpTo
namespace Go.Proofs.YtgegkcjllliifabDoor
open Go.RowKit

set_option maxHeartbeats 400000 in
theorem All_any (w : World) (ao : Option Addr) (n cap : Nat) (h : Minus w (.slice ao n cap)) :
    Calls Tryd.prog 9 #[.slice ao n cap] w fun e w' => e = .returned (.bool true) ∧ Below w.heap.size w w' := by
  have C := hide h
  unfold Minus at C
  clear h
  go_enter Tryd.func9, Tryd.ntmps9
  go_wp2_with fail
  refine (unhide C).mono ?_
  rintro e w' ⟨rfl, hb⟩
  go_wp2
  go_ret
  exact ⟨rfl, hb⟩
end Go.Proofs.YtgegkcjllliifabDoor
