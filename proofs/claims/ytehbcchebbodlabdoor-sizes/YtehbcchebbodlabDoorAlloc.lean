/-
  The walk of Alloc.
-/
import Derived.Test.YtehbcchebbodlabDoorSize
import Derived.Test.YtehbcchebbodlabDoorRoom
import Derived.Test.YtehbcchebbodlabDoorLay
namespace Go.Proofs.YtehbcchebbodlabDoor
open Go.RowKit

theorem sizeOf'_bd (n : Nat) (h1 : 1 ≤ n) : 1 ≤ sizeOf' n ∧ n ≤ sizeOf' n ∧ sizeOf' n ≤ n + 31 := by
  unfold sizeOf'; omega

/-- An object is laid. -/
theorem alloc_ok (L : Lay) (s : St) (n w0 sz : Nat) (at' : Bool) (w : World) (R : Rep w L s) (hT : Tab w) (h1 : 1 ≤ n) (h2 : n ≤ s.n * 32) (hz : Hid (sizeOf' n = sz)) (hr : Hid (roomAt s sz at' = w0))
    (h3 : w0 / 32 + (sz + 31) / 32 ≤ s.n) (h4 : w0 + sz ≤ s.n * 32) :
    Calls Tryd.prog 10 #[.pointer (some ⟨L.h, 0, none⟩), .int .i64 n, .bool at'] w fun e w' => e = .returned (.tuple #[.int .i64 (1048576 + (w0 : Int) * 8), .int .i64 0]) ∧ Rep w' L (laid s w0 sz at') ∧ Keeps L w w' := by
  have n2 := R.n2
  have fw := R.fw
  have bd := sizeOf'_bd n h1
  rw [hz.out] at bd
  obtain ⟨b1, b2, b3⟩ := bd
  have C1 : Hid (Calls Tryd.prog 16 #[.int .i64 n] w fun e w' => e = .returned (.int .i64 sz) ∧ w' = w) := by
    have := sizeFor_any n w hT (by omega) (by omega)
    rw [hz.out] at this
    exact this
  have C2 : Hid (Calls Tryd.prog 17 #[.pointer (some ⟨L.h, 0, none⟩), .int .i64 sz, .bool at'] w fun e w' => e = .returned (.int .i64 w0) ∧ Below w.heap.size w w') := by
    have := roomFor_any L s sz at' w R (by omega) (by omega)
    rw [hr.out] at this
    exact this
  have C3 : Hid (∀ w1, Below w.heap.size w w1 → Calls Tryd.prog 18 #[.pointer (some ⟨L.h, 0, none⟩), .int .i64 w0, .int .i64 sz, .bool at'] w1 fun e w' => e = .returned (.tuple #[]) ∧ Rep w' L (laid s w0 sz at') ∧ Keeps L w w') := by
    intro w1 hb
    exact (lay_any L s w0 sz at' w1 (R.below hb) (by omega) h3 h4).mono fun e w' ⟨he, r, k⟩ => ⟨he, r, (Keeps.of_below hb).trans k⟩
  clear R hT hz hr
  go_enter Tryd.func10, Tryd.ntmps10
  go_wp2_with (first | (go_at_call 16; refine (unhide C1).mono ?_; rintro e w' ⟨rfl, rfl⟩) | (go_at_call 17; refine (unhide C2).mono ?_; rintro e w1 ⟨rfl, hb1⟩) | (go_at_call 18; refine (unhide C3 _ (by assumption)).mono ?_; rintro e w2 ⟨rfl, hq⟩; have HQ := hide hq; clear hq) | go_in)
  go_ret2
  exact ⟨rfl, unhide HQ⟩

end Go.Proofs.YtehbcchebbodlabDoor
