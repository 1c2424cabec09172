/-
  The walks of Size.
-/
import Derived.Test.YtehbcchebbodlabDoorFind
namespace Go.Proofs.YtehbcchebbodlabDoor
open Go.RowKit

set_option maxHeartbeats 400000 in
theorem size_none (L : Lay) (s : St) (k : Nat) (a : Int) (w : World) (R : Rep w L s) (h : 1048576 ≤ a) (h' : a < 1048576 + 256 * (s.n : Int)) (hk : Hid ((a - 1048576) / 8 = k)) (ok : s.ok) (ho : objAt s k = -1) :
    Calls Tryd.prog 11 #[.pointer (some ⟨L.h, 0, none⟩), .int .i64 a] w fun e w' => e = .returned (.tuple #[.int .i64 0, .int .i64 5]) ∧ Below w.heap.size w w' := by
  have := objectAt_any L s k a w R h h' hk ok
  rw [ho] at this
  have C := hide this
  clear this ho
  go_enter Tryd.func11, Tryd.ntmps11
  go_wp2_with (go_at_call 20; refine (unhide C).mono ?_; rintro e w' ⟨rfl, hb⟩)
  go_ret2
  exact ⟨rfl, hb⟩

set_option maxHeartbeats 400000 in
theorem size_some (L : Lay) (s : St) (k : Nat) (a : Int) (w : World) (R : Rep w L s) (h : 1048576 ≤ a) (h' : a < 1048576 + 256 * (s.n : Int)) (hk : Hid ((a - 1048576) / 8 = k)) (ok : s.ok) (f : Nat) (hf : f / 32 < s.n) (ho : objAt s k = f) :
    Calls Tryd.prog 11 #[.pointer (some ⟨L.h, 0, none⟩), .int .i64 a] w fun e w' => e = .returned (.tuple #[.int .i64 (s.size (f / 32)), .int .i64 0]) ∧ Below w.heap.size w w' := by
  have := objectAt_any L s k a w R h h' hk ok
  rw [ho] at this
  have C := hide this
  have RR := hide R
  have n2 := R.n2
  clear this ho R
  go_enter Tryd.func11, Tryd.ntmps11
  go_wp2_with (go_at_call 20; refine (unhide C).mono ?_; rintro e w' ⟨rfl, hb⟩; have fp := ((unhide RR).below hb).fp; have ps := ((unhide RR).below hb).ps (f / 32) hf)
  go_ret2
  exact ⟨rfl, by assumption⟩
end Go.Proofs.YtehbcchebbodlabDoor
