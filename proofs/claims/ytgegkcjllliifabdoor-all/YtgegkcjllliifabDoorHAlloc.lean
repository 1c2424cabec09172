/-
  The walks of Alloc and Free.
-/
import Derived.Test.YtgegkcjllliifabDoorHStore
namespace Go.Proofs.YtgegkcjllliifabDoor
open Go.RowKit

set_option maxHeartbeats 400000 in
theorem hAlloc_size (L : HL) (s : St) (n : Int) (at' : Bool) (w : World) (R : Rep w L s) (h : n < 1 ∨ (s.n : Int) * 32 < n) :
    Calls Tryd.prog 20 #[.pointer (some ⟨L.h, 0, none⟩), .int .i64 n, .bool at'] w fun e w' => e = .returned (.tuple #[.int .i64 0, .int .i64 2]) ∧ w' = w := by
  have n2 := R.n2
  have fw := R.cells.fw
  by_cases c : n < 1
  · clear h
    go_enter Tryd.func20, Tryd.ntmps20
    go_wp2
    go_ret2
    exact ⟨rfl, rfl⟩
  · have h' : (s.n : Int) * 32 < n := by omega
    clear h
    go_enter Tryd.func20, Tryd.ntmps20
    go_wp2
    go_ret2
    exact ⟨rfl, rfl⟩

/-- What lay asks. -/
structure St.LayOk (s : St) (k sz : Nat) (at' : Bool) : Prop where
  h3 : k / 32 + (sz + 31) / 32 ≤ s.n
  h4 : k + sz ≤ s.n * 32
  rb : ∀ j, j < (sz + 31) / 32 → (layPg s (k / 32) sz at' j).RB (k / 32 + j)

set_option maxHeartbeats 400000 in
theorem hFree_none (L : HL) (s : St) (a : Int) (w : World) (R : Rep w L s) (ok : s.ok) (ho : s.at a = none) :
    Calls Tryd.prog 24 #[.pointer (some ⟨L.h, 0, none⟩), .int .i64 a] w fun e w' => e = .returned (.int .i64 5) ∧ Below w.heap.size w w' := by
  have := objectAt_any L s a w R ok
  rw [ho] at this
  have C := hide this
  clear this ho
  unfold optInt at C
  go_enter Tryd.func24, Tryd.ntmps24
  go_wp2_with (go_at_call 38; refine (unhide C).mono ?_; rintro e w' ⟨rfl, hb⟩)
  go_ret
  exact ⟨rfl, by assumption⟩

set_option maxHeartbeats 400000 in
theorem hFree_base (L : HL) (s : St) (a : Int) (f : Nat) (w : World) (R : Rep w L s) (ok : s.ok) (ho : s.at a = some f) (hne : 1048576 + (f : Int) * 8 ≠ a) :
    Calls Tryd.prog 24 #[.pointer (some ⟨L.h, 0, none⟩), .int .i64 a] w fun e w' => e = .returned (.int .i64 6) ∧ Below w.heap.size w w' := by
  have hlt := St.at_lt ok ho
  have n2 := R.n2
  have := objectAt_any L s a w R ok
  rw [ho] at this
  have C := hide this
  have hne' : ((1048576 + (f : Int) * 8) != a) = true := by simpa using hne
  have hz : ((f : Int) == -1) = false := by simp
  have CA : Hid (∀ w1 : World, Calls Tryd.prog 37 #[.int .i64 f] w1 fun e w' => e = .returned (.int .i64 (1048576 + (f : Int) * 8)) ∧ w' = w1) := fun w1 => addressOf_any f w1 (by omega) (by omega)
  clear this ho hne
  unfold optInt at C
  go_enter Tryd.func24, Tryd.ntmps24
  go_wp2_with (first | (go_at_call 38; refine (unhide C).mono ?_; rintro e w' ⟨rfl, hb⟩) | (go_at_call 37; refine (unhide CA _).mono ?_; rintro e w' ⟨rfl, rfl⟩))
  go_ret
  exact ⟨rfl, by assumption⟩

set_option maxHeartbeats 400000 in
theorem hFree_ok (L : HL) (s : St) (f : Nat) (w : World) (R : Rep w L s) (ok : s.ok) (ho : s.at (1048576 + (f : Int) * 8) = some f) (rb : s.RB (f / 32)) :
    Calls Tryd.prog 24 #[.pointer (some ⟨L.h, 0, none⟩), .int .i64 (1048576 + (f : Int) * 8)] w fun e w' => e = .returned (.int .i64 0) ∧ Rep w' L (s.dropped f) ∧ Touch L.blocks w w' := by
  have hlt := St.at_lt ok ho
  have n2 := R.n2
  have := objectAt_any L s (1048576 + (f : Int) * 8) w R ok
  rw [ho] at this
  have C := hide this
  have hne' : ((1048576 + (f : Int) * 8) != (1048576 + (f : Int) * 8)) = false := by simp
  have hz : ((f : Int) == -1) = false := by simp
  have CA : Hid (∀ w1 : World, Calls Tryd.prog 37 #[.int .i64 f] w1 fun e w' => e = .returned (.int .i64 (1048576 + (f : Int) * 8)) ∧ w' = w1) := fun w1 => addressOf_any f w1 (by omega) (by omega)
  have CD : Hid (∀ w1, Below w.heap.size w w1 → Calls Tryd.prog 41 #[.pointer (some ⟨L.h, 0, none⟩), .int .i64 f] w1 fun e w' => e = .returned (.tuple #[]) ∧ Rep w' L (s.dropped f) ∧ Touch L.blocks w w') := by
    intro w1 hb
    refine (drop_any L s f w1 (R.below hb) hlt.1 rb).mono ?_
    rintro e w' ⟨he, r, t⟩
    exact ⟨he, r, (Touch.of_below hb).trans t fun i hi => .inl hi⟩
  clear this ho rb R ok
  unfold optInt at C
  go_enter Tryd.func24, Tryd.ntmps24
  go_wp2_with (first | (go_at_call 38; refine (unhide C).mono ?_; rintro e w' ⟨rfl, hb⟩) | (go_at_call 37; refine (unhide CA _).mono ?_; rintro e w' ⟨rfl, rfl⟩) | (go_at_call 41; refine (unhide CD _ (by assumption)).mono ?_; rintro e w' ⟨rfl, hr, ht⟩))
  go_ret
  exact ⟨rfl, by assumption, by assumption⟩
end Go.Proofs.YtgegkcjllliifabDoor
