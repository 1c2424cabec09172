/-
  The walks of first and of the laws that call it.
-/
import Derived.Test.YtgegkcjllliifaaDoorLawUpTo
namespace Go.Proofs.YtgegkcjllliifaaDoor
open Go.RowKit

set_option maxHeartbeats 400000 in
theorem first_any (w : World) (ao : Option Addr) (n cap : Nat) (h : Minus w (.slice ao n cap)) (lo hi : Int) :
    Calls Tryd.prog 15 #[.slice ao n cap, .int .i64 lo, .int .i64 hi] w fun e w' => e = .returned (.bool true) ∧ Below w.heap.size w w' := by
  have C := hide h
  unfold Minus at C
  clear h
  go_enter Tryd.func15, Tryd.ntmps15
  go_wp2_with fail
  refine (unhide C).mono ?_
  rintro e w' ⟨rfl, hb⟩
  go_wp2
  go_ret
  exact ⟨rfl, hb⟩
set_option maxHeartbeats 400000 in
theorem Allocs_any (w : World) (ao : Option Addr) (n cap : Nat) (h : Minus w (.slice ao n cap)) :
    Calls Tryd.prog 3 #[.slice ao n cap] w fun e w' => e = .returned (.bool true) ∧ Below w.heap.size w w' := by
  have C := hide (first_any w ao n cap h)
  clear h
  go_enter Tryd.func3, Tryd.ntmps3
  go_wp2_with fail
  refine (unhide C _ _).mono ?_
  rintro e w' ⟨rfl, hb⟩
  go_wp2
  go_ret
  exact ⟨rfl, hb⟩
set_option maxHeartbeats 400000 in
theorem Asks_any (w : World) (ao : Option Addr) (n cap : Nat) (h : Minus w (.slice ao n cap)) :
    Calls Tryd.prog 4 #[.slice ao n cap] w fun e w' => e = .returned (.bool true) ∧ Below w.heap.size w w' := by
  have C := hide (first_any w ao n cap h)
  clear h
  go_enter Tryd.func4, Tryd.ntmps4
  go_wp2_with fail
  refine (unhide C _ _).mono ?_
  rintro e w' ⟨rfl, hb⟩
  go_wp2
  go_ret
  exact ⟨rfl, hb⟩
set_option maxHeartbeats 400000 in
theorem Collects_any (w : World) (ao : Option Addr) (n cap : Nat) (h : Minus w (.slice ao n cap)) :
    Calls Tryd.prog 5 #[.slice ao n cap] w fun e w' => e = .returned (.bool true) ∧ Below w.heap.size w w' := by
  have C := hide (first_any w ao n cap h)
  clear h
  go_enter Tryd.func5, Tryd.ntmps5
  go_wp2_with fail
  refine (unhide C _ _).mono ?_
  rintro e w' ⟨rfl, hb⟩
  go_wp2
  go_ret
  exact ⟨rfl, hb⟩
set_option maxHeartbeats 400000 in
theorem Tells_any (w : World) (ao : Option Addr) (n cap : Nat) (h : Minus w (.slice ao n cap)) :
    Calls Tryd.prog 6 #[.slice ao n cap] w fun e w' => e = .returned (.bool true) ∧ Below w.heap.size w w' := by
  have C := hide (first_any w ao n cap h)
  clear h
  go_enter Tryd.func6, Tryd.ntmps6
  go_wp2_with fail
  refine (unhide C _ _).mono ?_
  rintro e w' ⟨rfl, hb⟩
  go_wp2
  go_ret
  exact ⟨rfl, hb⟩
end Go.Proofs.YtgegkcjllliifaaDoor
