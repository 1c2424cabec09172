/-
  The walks of Base and Load.
-/
import Derived.Test.YtgegkcjllliifabDoorHSays
namespace Go.Proofs.YtgegkcjllliifabDoor
open Go.RowKit

set_option maxHeartbeats 400000 in
theorem hBase_none (L : HL) (s : St) (a : Int) (w : World) (R : Rep w L s) (ok : s.ok) (ho : s.at a = none) :
    Calls Tryd.prog 71 #[.pointer (some ⟨L.h, 0, none⟩), .int .i64 a] w fun e w' => e = .returned (.tuple #[.int .i64 0, .int .i64 5]) ∧ Below w.heap.size w w' := by
  have := objectAt_any L s a w R ok
  rw [ho] at this
  have C := hide this
  clear this ho
  unfold optInt at C
  go_enter Tryd.func71, Tryd.ntmps71
  go_wp2_with (go_at_call 38; refine (unhide C).mono ?_; rintro e w' ⟨rfl, hb⟩)
  go_ret2
  exact ⟨rfl, by assumption⟩

set_option maxHeartbeats 400000 in
theorem hBase_some (L : HL) (s : St) (a : Int) (f : Nat) (w : World) (R : Rep w L s) (ok : s.ok) (ho : s.at a = some f) :
    Calls Tryd.prog 71 #[.pointer (some ⟨L.h, 0, none⟩), .int .i64 a] w fun e w' => e = .returned (.tuple #[.int .i64 (1048576 + (f : Int) * 8), .int .i64 0]) ∧ Below w.heap.size w w' := by
  have hlt := St.at_lt ok ho
  have n2 := R.n2
  have := objectAt_any L s a w R ok
  rw [ho] at this
  have C := hide this
  have hz : ((f : Int) == -1) = false := by simp
  have CA : Hid (∀ w1 : World, Calls Tryd.prog 37 #[.int .i64 f] w1 fun e w' => e = .returned (.int .i64 (1048576 + (f : Int) * 8)) ∧ w' = w1) := fun w1 => addressOf_any f w1 (by omega) (by omega)
  clear this ho
  unfold optInt at C
  go_enter Tryd.func71, Tryd.ntmps71
  go_wp2_with (first | (go_at_call 38; refine (unhide C).mono ?_; rintro e w' ⟨rfl, hb⟩) | (go_at_call 37; refine (unhide CA _).mono ?_; rintro e w' ⟨rfl, rfl⟩))
  go_ret2
  exact ⟨rfl, by assumption⟩

set_option maxHeartbeats 400000 in
theorem hLoad_err0 (L : HL) (s : St) (a c : Int) (w : World) (hc : (if a % 8 ≠ 0 then (4 : Int) else 5) = c) (R : Rep w L s) (ok : s.ok) (h : a % 8 ≠ 0 ∨ s.at a = none) :
    Calls Tryd.prog 29 #[.pointer (some ⟨L.h, 0, none⟩), .int .i64 a] w fun e w' => e = .returned (.tuple #[.int .i64 0, .int .i64 c]) ∧ Below w.heap.size w w' := by
  have C := checkWord_any L s a w R ok
  obtain ⟨h1, hne⟩ := check_code s a h
  rw [h1, hc] at C
  rw [hc] at hne
  have CC := hide C
  clear C hc h R ok h1
  go_enter Tryd.func29, Tryd.ntmps29
  go_wp2_with (go_at_call 39; refine (unhide CC).mono ?_; rintro e w' ⟨rfl, hb⟩)
  go_ret2
  exact ⟨rfl, by assumption⟩
theorem hLoad_err (L : HL) (s : St) (a : Int) (w : World) (R : Rep w L s) (ok : s.ok) (h : a % 8 ≠ 0 ∨ s.at a = none) :
    Calls Tryd.prog 29 #[.pointer (some ⟨L.h, 0, none⟩), .int .i64 a] w fun e w' => e = .returned (.tuple #[.int .i64 0, .int .i64 (if a % 8 ≠ 0 then 4 else 5)]) ∧ Below w.heap.size w w' :=
  hLoad_err0 L s a _ w rfl R ok h

set_option maxHeartbeats 800000 in
theorem hLoad_ok (L : HL) (s : St) (a : Int) (k f : Nat) (w : World) (R : Rep w L s) (ok : s.ok) (h8 : a % 8 = 0) (hf : s.at a = some f) (hk : (a - 1048576) / 8 = k) (h1 : 1048576 ≤ a) (hkn : k < s.n * 32) :
    Calls Tryd.prog 29 #[.pointer (some ⟨L.h, 0, none⟩), .int .i64 a] w fun e w' => e = .returned (.tuple #[.int .i64 (s.word k), .int .i64 0]) ∧ Below w.heap.size w w' := by
  have C := checkWord_any L s a w R ok
  rw [if_neg (by omega), if_neg (by rw [hf]; simp)] at C
  have CC := hide C
  have RR := hide R
  have n2 := R.n2
  have a2 : a ≤ 2000000 := by omega
  have CW : Hid (∀ w1 : World, Calls Tryd.prog 40 #[.int .i64 a] w1 fun e w' => e = .returned (.int .i64 k) ∧ w' = w1) := fun w1 => wordAt_nat a k w1 h1 (by omega) hk
  have hk0 : (0 : Int) ≤ (k : Int) := by omega
  have hk1 : (k : Int) < ((s.n * 32 : Nat) : Int) := by omega
  clear C R ok hf hk h8
  go_enter Tryd.func29, Tryd.ntmps29
  go_wp2_with (go_at_call 39; refine (unhide CC).mono ?_; rintro e w1 ⟨rfl, hb⟩; have R1 := hide ((unhide RR).below hb); have HB := hide hb; have fw := (unhide R1).cells.fw; have ws := (unhide R1).cells.ws k hkn; clear hb)
  go_quiet ((go_at_call 40; exact Calls.quiet_of_same (unhide CW _)))
  go_wp2
  go_ret2
  refine ⟨rfl, (unhide HB).trans (below_drewN _ _ _)⟩
end Go.Proofs.YtgegkcjllliifabDoor
