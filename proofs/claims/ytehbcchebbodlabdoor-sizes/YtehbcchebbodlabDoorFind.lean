/-
  The walk of objectAt.
-/
import Derived.Test.YtehbcchebbodlabDoorMem
namespace Go.Proofs.YtehbcchebbodlabDoor
open Go.RowKit

set_option maxHeartbeats 400000 in
theorem objectAt_out (L : Lay) (a : Int) (w : World) (h : a < 1048576) :
    Calls Tryd.prog 20 #[.pointer (some ⟨L.h, 0, none⟩), .int .i64 a] w fun e w' => e = .returned (.int .i64 (-1)) ∧ w' = w := by
  go_enter Tryd.func20, Tryd.ntmps20
  go_wp2
  go_ret
  exact ⟨rfl, rfl⟩

set_option maxHeartbeats 400000 in
theorem objectAt_past (L : Lay) (s : St) (a : Int) (w : World) (R : Rep w L s) (h : 1048576 + 256 * (s.n : Int) ≤ a) :
    Calls Tryd.prog 20 #[.pointer (some ⟨L.h, 0, none⟩), .int .i64 a] w fun e w' => e = .returned (.int .i64 (-1)) ∧ w' = w := by
  have n1 := R.n1
  have n2 := R.n2
  have fw := R.fw
  go_enter Tryd.func20, Tryd.ntmps20
  go_wp2
  go_ret
  exact ⟨rfl, rfl⟩

theorem wordAt_nat (a : Int) (k : Nat) (w : World) (h1 : 1048576 ≤ a) (h2 : a ≤ 9223372036854775807) (hk : Hid ((a - 1048576) / 8 = k)) :
    Calls Tryd.prog 22 #[.int .i64 a] w fun e w' => e = .returned (.int .i64 k) ∧ w' = w := by
  have := wordAt_any a w h1 h2
  rw [hk.out] at this
  exact this

set_option maxHeartbeats 400000 in
theorem objectAt_none (L : Lay) (s : St) (k : Nat) (a : Int) (w : World) (R : Rep w L s) (h : 1048576 ≤ a) (h' : a < 1048576 + 256 * (s.n : Int)) (hk : Hid ((a - 1048576) / 8 = k)) (hp : k / 32 < s.n) (h0 : s.size (k / 32) = 0) :
    Calls Tryd.prog 20 #[.pointer (some ⟨L.h, 0, none⟩), .int .i64 a] w fun e w' => e = .returned (.int .i64 (-1)) ∧ Below w.heap.size w w' := by
  have n1 := R.n1
  have n2 := R.n2
  have fw := R.fw
  have fp := R.fp
  have ps := R.ps (k / 32) hp
  have pa := R.pa (k / 32) hp
  have pk := R.pk (k / 32) hp
  rw [h0] at ps
  clear R h0
  go_enter Tryd.func20, Tryd.ntmps20
  go_wp2_with (first | (go_at_call 22; refine (wordAt_nat _ k _ (by omega) (by omega) hk).mono ?_; rintro e w' ⟨rfl, rfl⟩) | go_in)
  go_ret
  exact ⟨rfl, (Below.refl _ _).alloc (Nat.le_refl _) _⟩

set_option maxHeartbeats 400000 in
theorem objectAt_great (L : Lay) (s : St) (k : Nat) (a : Int) (w : World) (R : Rep w L s) (h : 1048576 ≤ a) (h' : a < 1048576 + 256 * (s.n : Int)) (hk : Hid ((a - 1048576) / 8 = k)) (hp : k / 32 < s.n) (z b : Int) (hz : s.size (k / 32) = z) (hb : s.back (k / 32) = b) (h0 : 16 < z) (h1 : 0 ≤ b) (h2 : b ≤ 48) :
    Calls Tryd.prog 20 #[.pointer (some ⟨L.h, 0, none⟩), .int .i64 a] w fun e w' => e = .returned (.int .i64 (((k / 32 : Nat) - b) * 32)) ∧ Below w.heap.size w w' := by
  have n1 := R.n1
  have n2 := R.n2
  have fw := R.fw
  have fp := R.fp
  have ps := R.ps (k / 32) hp
  have pa := R.pa (k / 32) hp
  have pk := R.pk (k / 32) hp
  rw [hz] at ps
  rw [hb] at pk
  clear R hz hb
  go_enter Tryd.func20, Tryd.ntmps20
  go_wp2_with (first | (go_at_call 22; refine (wordAt_nat _ k _ (by omega) (by omega) hk).mono ?_; rintro e w' ⟨rfl, rfl⟩) | go_in)
  go_ret
  exact ⟨ret_int (by omega), (Below.refl _ _).alloc (Nat.le_refl _) _⟩

set_option maxHeartbeats 400000 in
theorem objectAt_small (L : Lay) (s : St) (k : Nat) (a : Int) (w : World) (R : Rep w L s) (h : 1048576 ≤ a) (h' : a < 1048576 + 256 * (s.n : Int)) (hk : Hid ((a - 1048576) / 8 = k)) (hp : k / 32 < s.n) (z m : Nat) (b : Bool) (hz : s.size (k / 32) = z) (h0 : 1 ≤ z) (h1 : z ≤ 16) (hm : (k : Int) % 32 % (z : Int) = (m : Int)) (hmk : m ≤ k) (hb : s.beg (k - m) = b) :
    Calls Tryd.prog 20 #[.pointer (some ⟨L.h, 0, none⟩), .int .i64 a] w fun e w' => e = .returned (.int .i64 (if b then ((k - m : Nat) : Int) else -1)) ∧ Below w.heap.size w w' := by
  have n1 := R.n1
  have n2 := R.n2
  have fw := R.fw
  have fp := R.fp
  have ps := R.ps (k / 32) hp
  have pa := R.pa (k / 32) hp
  have pk := R.pk (k / 32) hp
  have fb := R.fb
  have e2 : k < s.n * 32 := by omega
  have bs := R.bs (k - m) (by omega)
  obtain ⟨l1, l2, l3, l4⟩ := R.lts
  rw [hz] at ps
  rw [hb] at bs
  clear R hz hb
  cases b
  all_goals
    go_enter Tryd.func20, Tryd.ntmps20
    go_wp2_with (first | (go_at_call 22; refine (wordAt_nat _ k _ (by omega) (by omega) hk).mono ?_; rintro e w' ⟨rfl, rfl⟩) | go_in)
    go_ret
  · exact ⟨rfl, (Below.refl _ _).alloc (Nat.le_refl _) _⟩
  · exact ⟨ret_int (by omega), (Below.refl _ _).alloc (Nat.le_refl _) _⟩

/-- Pages hold what pages may hold. -/
def St.ok (s : St) : Prop := ∀ p, p < s.n → 0 ≤ s.size p ∧ s.size p ≤ 1536 ∧ 0 ≤ s.back p ∧ s.back p ≤ p

/-- The first word of the object in which word k lies, or -1. -/
def objAt (s : St) (k : Nat) : Int :=
  if s.size (k / 32) = 0 then -1 else if 16 < s.size (k / 32) then ((k / 32 : Nat) - s.back (k / 32)) * 32
  else if s.beg (k - k % 32 % (s.size (k / 32)).toNat) then ((k - k % 32 % (s.size (k / 32)).toNat : Nat) : Int) else -1

theorem objectAt_any (L : Lay) (s : St) (k : Nat) (a : Int) (w : World) (R : Rep w L s) (h : 1048576 ≤ a) (h' : a < 1048576 + 256 * (s.n : Int)) (hk : Hid ((a - 1048576) / 8 = k)) (ok : s.ok) :
    Calls Tryd.prog 20 #[.pointer (some ⟨L.h, 0, none⟩), .int .i64 a] w fun e w' => e = .returned (.int .i64 (objAt s k)) ∧ Below w.heap.size w w' := by
  have hp : k / 32 < s.n := by have := hk.out; omega
  obtain ⟨o1, o2, o3, o4⟩ := ok (k / 32) hp
  have n2 := R.n2
  unfold objAt
  by_cases c1 : s.size (k / 32) = 0
  · rw [if_pos c1]
    exact objectAt_none L s k a w R h h' hk hp c1
  · rw [if_neg c1]
    by_cases c2 : 16 < s.size (k / 32)
    · rw [if_pos c2]
      exact objectAt_great L s k a w R h h' hk hp _ _ rfl rfl c2 o3 (by omega)
    · rw [if_neg c2]
      refine objectAt_small L s k a w R h h' hk hp (s.size (k / 32)).toNat (k % 32 % (s.size (k / 32)).toNat) _ (by omega) (by omega) (by omega) ?_ (Nat.le_trans (Nat.mod_le _ _) (Nat.mod_le _ _)) rfl
      rw [Int.natCast_emod, Int.natCast_emod]
      rfl

end Go.Proofs.YtehbcchebbodlabDoor
