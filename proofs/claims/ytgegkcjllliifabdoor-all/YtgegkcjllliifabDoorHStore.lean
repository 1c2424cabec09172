/-
  The walks of Store, Alloc, Free.
-/
import Derived.Test.YtgegkcjllliifabDoorHTidy
import Derived.Deep.RegionHeld3
namespace Go.Proofs.YtgegkcjllliifabDoor
open Go.RowKit

theorem set_cell_other (w : World) (b o b' o' : Nat) (v : Value) (h : b' ≠ b) : (w.setCell ⟨b, o, none⟩ v).cell? ⟨b', o', none⟩ = w.cell? ⟨b', o', none⟩ :=
  World.cell?_setCell_other _ _ _ _ (by intro e; simp only [Addr.mk.injEq] at e; exact h e.1.symm)

theorem check_code (s : St) (a : Int) (h : a % 8 ≠ 0 ∨ s.at a = none) : (if a % 8 ≠ 0 then (4 : Int) else if s.at a = none then 5 else 0) = (if a % 8 ≠ 0 then (4 : Int) else 5) ∧ ((if a % 8 ≠ 0 then (4 : Int) else 5) != 0) = true := by
  by_cases e : a % 8 ≠ 0
  · rw [if_pos e, if_pos e]; exact ⟨rfl, rfl⟩
  · rw [if_neg e, if_neg e, if_pos (h.resolve_left e)]; exact ⟨rfl, rfl⟩

set_option maxHeartbeats 400000 in
theorem hStore_err0 (L : HL) (s : St) (a y c : Int) (w : World) (hc : (if a % 8 ≠ 0 then (4 : Int) else 5) = c) (R : Rep w L s) (ok : s.ok) (h : a % 8 ≠ 0 ∨ s.at a = none) :
    Calls Tryd.prog 22 #[.pointer (some ⟨L.h, 0, none⟩), .int .i64 a, .int .i64 y] w fun e w' => e = .returned (.int .i64 c) ∧ Below w.heap.size w w' := by
  have C := checkWord_any L s a w R ok
  obtain ⟨h1, hne⟩ := check_code s a h
  rw [h1, hc] at C
  rw [hc] at hne
  have CC := hide C
  clear C hc h R ok h1
  go_enter Tryd.func22, Tryd.ntmps22
  go_wp2_with (go_at_call 39; refine (unhide CC).mono ?_; rintro e w' ⟨rfl, hb⟩)
  go_ret
  exact ⟨rfl, by assumption⟩
theorem hStore_err (L : HL) (s : St) (a y : Int) (w : World) (R : Rep w L s) (ok : s.ok) (h : a % 8 ≠ 0 ∨ s.at a = none) :
    Calls Tryd.prog 22 #[.pointer (some ⟨L.h, 0, none⟩), .int .i64 a, .int .i64 y] w fun e w' => e = .returned (.int .i64 (if a % 8 ≠ 0 then 4 else 5)) ∧ Below w.heap.size w w' :=
  hStore_err0 L s a y _ w rfl R ok h

set_option maxHeartbeats 800000 in
theorem hStore_ok (L : HL) (s : St) (a y : Int) (k f : Nat) (w : World) (R : Rep w L s) (ok : s.ok) (h8 : a % 8 = 0) (hf : s.at a = some f) (hk : (a - 1048576) / 8 = k) (h1 : 1048576 ≤ a) (hkn : k < s.n * 32) :
    Calls Tryd.prog 22 #[.pointer (some ⟨L.h, 0, none⟩), .int .i64 a, .int .i64 y] w fun e w' => e = .returned (.int .i64 0) ∧ Rep w' L (s.setWd k y) ∧ Touch L.blocks w w' := by
  have C := checkWord_any L s a w R ok
  rw [if_neg (by omega), if_neg (by rw [hf]; simp)] at C
  have CC := hide C
  have RR := hide R
  have n2 := R.n2
  have a2 : a ≤ 2000000 := by omega
  have CW : Hid (∀ w1 : World, Calls Tryd.prog 40 #[.int .i64 a] w1 fun e w' => e = .returned (.int .i64 k) ∧ w' = w1) := fun w1 => wordAt_nat a k w1 h1 (by omega) hk
  have ap := (HL.apart R.nd).hw
  have hk0 : (0 : Int) ≤ (k : Int) := by omega
  have hk1 : (k : Int) < ((s.n * 32 : Nat) : Int) := by omega
  clear C R ok hf hk h8
  go_enter Tryd.func22, Tryd.ntmps22
  go_wp2_with (go_at_call 39; refine (unhide CC).mono ?_; rintro e w1 ⟨rfl, hb⟩; have R1 := hide ((unhide RR).below hb); have HB := hide hb; have fw := (unhide R1).cells.fw; have ws := (unhide R1).cells.ws k hkn; have wz := (unhide R1).cells.wz; clear hb)
  go_region_with ((go_at_call 40; refine (unhide CW _).mono ?_; rintro e w' ⟨rfl, rfl⟩))
  all_goals go_wp2
  all_goals go_ret
  all_goals exact ⟨rfl, ((unhide R1).setWd k y).drew, ((Touch.of_below (unhide HB)).set _ _ _ (.inl (by simp [HL.blocks]))).below (Below.refl _ _).drew⟩
end Go.Proofs.YtgegkcjllliifabDoor
