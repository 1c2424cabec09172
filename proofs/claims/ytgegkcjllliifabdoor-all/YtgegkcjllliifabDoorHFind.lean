/-
  The walks of objectAt, checkWord, Base, Size, Load, Store.
-/
import Derived.Test.YtgegkcjllliifabDoorHSmall
namespace Go.Proofs.YtgegkcjllliifabDoor
open Go.RowKit

theorem wordAt_nat (a : Int) (k : Nat) (w : World) (h1 : 1048576 ≤ a) (h2 : a ≤ 9223372036854775807) (hk : Hid ((a - 1048576) / 8 = k)) :
    Calls Tryd.prog 40 #[.int .i64 a] w fun e w' => e = .returned (.int .i64 k) ∧ w' = w := by
  have := wordAt_any a w h1 h2
  rw [hk.out] at this
  exact this

/-- Pages hold what pages may hold. -/
def St.ok (s : St) : Prop := ∀ p, p < s.n → 0 ≤ s.size p ∧ s.size p ≤ 1536 ∧ 0 ≤ s.back p ∧ s.back p ≤ p

/-- The first word of the place in which word k lies, on a page in use. -/
def firstOf (s : St) (k : Nat) : Nat := if s.size (k / 32) ≤ 16 then k - k % 32 % (s.size (k / 32)).toNat else (k / 32 - (s.back (k / 32)).toNat) * 32
/-- The first word of the object in which word k lies. -/
def St.obj (s : St) (k : Nat) : Option Nat := if s.size (k / 32) = 0 then none else if s.beg (firstOf s k) then some (firstOf s k) else none
def optInt : Option Nat → Int
  | none => -1
  | some k => k

theorem within_in (L : HL) (s : St) (a : Int) (w : World) (R : Rep w L s) (h : 1048576 ≤ a) (h' : a < 1048576 + 256 * (s.n : Int)) :
    Calls Tryd.prog 59 #[.pointer (some ⟨L.h, 0, none⟩), .int .i64 a] w fun e w' => e = .returned (.bool true) ∧ w' = w := by
  have := within_any L s a w R
  simp only [h, h', decide_true, Bool.and_self] at this
  exact this
theorem within_out (L : HL) (s : St) (a : Int) (w : World) (R : Rep w L s) (h : a < 1048576 ∨ 1048576 + 256 * (s.n : Int) ≤ a) :
    Calls Tryd.prog 59 #[.pointer (some ⟨L.h, 0, none⟩), .int .i64 a] w fun e w' => e = .returned (.bool false) ∧ w' = w := by
  have := within_any L s a w R
  have e : (decide (1048576 ≤ a) && decide (a < 1048576 + 256 * (s.n : Int))) = false := by simp; omega
  rw [e] at this
  exact this

set_option maxHeartbeats 400000 in
theorem objectAt_out (L : HL) (s : St) (a : Int) (w : World) (R : Rep w L s) (h : a < 1048576 ∨ 1048576 + 256 * (s.n : Int) ≤ a) :
    Calls Tryd.prog 38 #[.pointer (some ⟨L.h, 0, none⟩), .int .i64 a] w fun e w' => e = .returned (.int .i64 (-1)) ∧ w' = w := by
  have C := hide (within_out L s a w R h)
  clear h
  go_enter Tryd.func38, Tryd.ntmps38
  go_wp2_with (go_at_call 59; refine (unhide C).mono ?_; rintro e w' ⟨rfl, rfl⟩)
  go_ret
  exact ⟨rfl, rfl⟩

set_option maxHeartbeats 400000 in
theorem objectAt_none (L : HL) (s : St) (k : Nat) (a : Int) (w : World) (R : Rep w L s) (h : 1048576 ≤ a) (h' : a < 1048576 + 256 * (s.n : Int)) (hk : Hid ((a - 1048576) / 8 = k)) (hp : k / 32 < s.n) (h0 : s.size (k / 32) = 0) :
    Calls Tryd.prog 38 #[.pointer (some ⟨L.h, 0, none⟩), .int .i64 a] w fun e w' => e = .returned (.int .i64 (-1)) ∧ Below w.heap.size w w' := by
  have C := hide (within_in L s a w R h h')
  have n1 := R.n1
  have n2 := R.n2
  have c := R.cells
  have fp := c.fp
  have ps := c.ps (k / 32) hp
  have pa := c.pa (k / 32) hp
  have pk := c.pk (k / 32) hp
  have pu := c.pu (k / 32) hp
  rw [h0] at ps
  clear R h0 c
  go_enter Tryd.func38, Tryd.ntmps38
  go_wp2_with (first | (go_at_call 59; refine (unhide C).mono ?_; rintro e w' ⟨rfl, rfl⟩) | (go_at_call 40; refine (wordAt_nat _ k _ (by omega) (by omega) hk).mono ?_; rintro e w' ⟨rfl, rfl⟩))
  go_ret
  exact ⟨rfl, (Below.refl _ _).alloc (Nat.le_refl _) _⟩

set_option maxHeartbeats 800000 in
theorem objectAt_great (L : HL) (s : St) (k f : Nat) (a : Int) (w : World) (R : Rep w L s) (h : 1048576 ≤ a) (h' : a < 1048576 + 256 * (s.n : Int)) (hk : Hid ((a - 1048576) / 8 = k)) (hp : k / 32 < s.n) (z : Int) (b : Nat) (bg : Bool) (hz : s.size (k / 32) = z) (hb : s.back (k / 32) = b) (h0 : 16 < z) (h1 : b ≤ k / 32) (hf : f = k / 32 - b) (hbg : s.beg (f * 32) = bg) :
    Calls Tryd.prog 38 #[.pointer (some ⟨L.h, 0, none⟩), .int .i64 a] w fun e w' => e = .returned (.int .i64 (if bg then ((f * 32 : Nat) : Int) else -1)) ∧ Below w.heap.size w w' := by
  have C := hide (within_in L s a w R h h')
  have n1 := R.n1
  have n2 := R.n2
  have c := R.cells
  have fp := c.fp
  have ps := c.ps (k / 32) hp
  have pa := c.pa (k / 32) hp
  have pk := c.pk (k / 32) hp
  have pu := c.pu (k / 32) hp
  have fb := c.fb
  have bs := c.bs (f * 32) (by omega)
  have l1 := c.l1
  have l4 := c.l4
  rw [hz] at ps
  rw [hb] at pk
  rw [hbg] at bs
  have ef : (k : Int) / 32 - (b : Int) = (f : Int) := by omega
  have hz0 : (z == 0) = false := by simp; omega
  have hfle : f < s.n := by omega
  clear R hz hb c hbg hf
  cases bg
  all_goals
    go_enter Tryd.func38, Tryd.ntmps38
    go_wp2_with (first | (go_at_call 59; refine (unhide C).mono ?_; rintro e w' ⟨rfl, rfl⟩) | (go_at_call 40; refine (wordAt_nat _ k _ (by omega) (by omega) hk).mono ?_; rintro e w' ⟨rfl, rfl⟩))
    go_ret
  · exact ⟨rfl, (Below.refl _ _).alloc (Nat.le_refl _) _⟩
  · exact ⟨ret_int (by omega), (Below.refl _ _).alloc (Nat.le_refl _) _⟩

set_option maxHeartbeats 800000 in
theorem objectAt_small (L : HL) (s : St) (k : Nat) (a : Int) (w : World) (R : Rep w L s) (h : 1048576 ≤ a) (h' : a < 1048576 + 256 * (s.n : Int)) (hk : Hid ((a - 1048576) / 8 = k)) (hp : k / 32 < s.n) (z m : Nat) (b : Bool) (hz : s.size (k / 32) = z) (h0 : 1 ≤ z) (h1 : z ≤ 16) (bk : Nat) (hbk : s.back (k / 32) = bk) (hbk2 : bk ≤ 48) (hm : (k : Int) % 32 % (z : Int) = (m : Int)) (hmk : m ≤ k) (hb : s.beg (k - m) = b) :
    Calls Tryd.prog 38 #[.pointer (some ⟨L.h, 0, none⟩), .int .i64 a] w fun e w' => e = .returned (.int .i64 (if b then ((k - m : Nat) : Int) else -1)) ∧ Below w.heap.size w w' := by
  have C := hide (within_in L s a w R h h')
  have n1 := R.n1
  have n2 := R.n2
  have c := R.cells
  have fp := c.fp
  have ps := c.ps (k / 32) hp
  have pa := c.pa (k / 32) hp
  have pk := c.pk (k / 32) hp
  have pu := c.pu (k / 32) hp
  have fb := c.fb
  have e2 : k < s.n * 32 := by omega
  have bs := c.bs (k - m) (by omega)
  have l1 := c.l1
  have l4 := c.l4
  rw [hz] at ps
  rw [hb] at bs
  rw [hbk] at pk
  clear R hz hb c hbk
  cases b
  all_goals
    go_enter Tryd.func38, Tryd.ntmps38
    go_wp2_with (first | (go_at_call 59; refine (unhide C).mono ?_; rintro e w' ⟨rfl, rfl⟩) | (go_at_call 40; refine (wordAt_nat _ k _ (by omega) (by omega) hk).mono ?_; rintro e w' ⟨rfl, rfl⟩))
    go_ret
  · exact ⟨rfl, (Below.refl _ _).alloc (Nat.le_refl _) _⟩
  · exact ⟨ret_int (by omega), (Below.refl _ _).alloc (Nat.le_refl _) _⟩

/-- The object that lies at a: its first word. -/
def St.at (s : St) (a : Int) : Option Nat := if 1048576 ≤ a ∧ a < 1048576 + 256 * (s.n : Int) then s.obj ((a - 1048576) / 8).toNat else none

theorem objectAt_any (L : HL) (s : St) (a : Int) (w : World) (R : Rep w L s) (ok : s.ok) :
    Calls Tryd.prog 38 #[.pointer (some ⟨L.h, 0, none⟩), .int .i64 a] w fun e w' => e = .returned (.int .i64 (optInt (s.at a))) ∧ Below w.heap.size w w' := by
  unfold St.at
  by_cases hin : 1048576 ≤ a ∧ a < 1048576 + 256 * (s.n : Int)
  · rw [if_pos hin]
    obtain ⟨h, h'⟩ := hin
    obtain ⟨k, hk⟩ : ∃ k : Nat, (a - 1048576) / 8 = k := ⟨((a - 1048576) / 8).toNat, by omega⟩
    have ek : ((a - 1048576) / 8).toNat = k := by omega
    rw [ek]
    have hp : k / 32 < s.n := by omega
    obtain ⟨o1, o2, o3, o4⟩ := ok (k / 32) hp
    have n2 := R.n2
    unfold St.obj
    by_cases c1 : s.size (k / 32) = 0
    · rw [if_pos c1]
      exact objectAt_none L s k a w R h h' hk hp c1
    · rw [if_neg c1]
      by_cases c2 : s.size (k / 32) ≤ 16
      · have ef : firstOf s k = k - k % 32 % (s.size (k / 32)).toNat := if_pos c2
        rw [ef]
        have := objectAt_small L s k a w R h h' hk hp (s.size (k / 32)).toNat (k % 32 % (s.size (k / 32)).toNat) _ (by omega) (by omega) (by omega) (s.back (k / 32)).toNat (by omega) (by omega) (by rw [Int.natCast_emod, Int.natCast_emod]; rfl) (Nat.le_trans (Nat.mod_le _ _) (Nat.mod_le _ _)) rfl
        refine this.mono ?_
        rintro e w' ⟨rfl, hb⟩
        refine ⟨?_, hb⟩
        split <;> rfl
      · have ef : firstOf s k = (k / 32 - (s.back (k / 32)).toNat) * 32 := if_neg c2
        rw [ef]
        have := objectAt_great L s k (k / 32 - (s.back (k / 32)).toNat) a w R h h' hk hp _ (s.back (k / 32)).toNat _ rfl (by omega) (by omega) (by omega) rfl rfl
        refine this.mono ?_
        rintro e w' ⟨rfl, hb⟩
        refine ⟨?_, hb⟩
        split <;> rfl
  · rw [if_neg hin]
    exact (objectAt_out L s a w R (by omega)).mono fun e w' ⟨he, hw⟩ => ⟨he, by rw [hw]; exact Below.refl _ _⟩

theorem St.at_lt {s : St} (ok : s.ok) {a : Int} {k : Nat} (h : s.at a = some k) : k < s.n * 32 ∧ k / 32 < s.n := by
  unfold St.at at h
  split at h
  · rename_i hin
    unfold St.obj at h
    split at h
    · cases h
    · split at h
      · have e := Option.some.inj h
        have hk : firstOf s ((a - 1048576) / 8).toNat ≤ ((a - 1048576) / 8).toNat := by
          unfold firstOf
          split
          · omega
          · have := (ok (((a - 1048576) / 8).toNat / 32) (by omega)).2.2
            have h2 : (((a - 1048576) / 8).toNat / 32 - (s.back (((a - 1048576) / 8).toNat / 32)).toNat) * 32 ≤ ((a - 1048576) / 8).toNat / 32 * 32 := Nat.mul_le_mul_right _ (Nat.sub_le _ _)
            omega
        omega
      · cases h
  · cases h

set_option maxHeartbeats 400000 in
theorem hSize_none (L : HL) (s : St) (a : Int) (w : World) (R : Rep w L s) (ok : s.ok) (ho : s.at a = none) :
    Calls Tryd.prog 21 #[.pointer (some ⟨L.h, 0, none⟩), .int .i64 a] w fun e w' => e = .returned (.tuple #[.int .i64 0, .int .i64 5]) ∧ Below w.heap.size w w' := by
  have := objectAt_any L s a w R ok
  rw [ho] at this
  have C := hide this
  clear this ho
  unfold optInt at C
  go_enter Tryd.func21, Tryd.ntmps21
  go_wp2_with (go_at_call 38; refine (unhide C).mono ?_; rintro e w' ⟨rfl, hb⟩)
  go_ret2
  exact ⟨rfl, hb⟩

set_option maxHeartbeats 400000 in
theorem hSize_some (L : HL) (s : St) (a : Int) (w : World) (R : Rep w L s) (ok : s.ok) (f : Nat) (ho : s.at a = some f) :
    Calls Tryd.prog 21 #[.pointer (some ⟨L.h, 0, none⟩), .int .i64 a] w fun e w' => e = .returned (.tuple #[.int .i64 (s.size (f / 32)), .int .i64 0]) ∧ Below w.heap.size w w' := by
  have := objectAt_any L s a w R ok
  have hf := St.at_lt ok ho
  rw [ho] at this
  have C := hide this
  have RR := hide R
  have n2 := R.n2
  clear this ho R
  unfold optInt at C
  go_enter Tryd.func21, Tryd.ntmps21
  go_wp2_with (go_at_call 38; refine (unhide C).mono ?_; rintro e w' ⟨rfl, hb⟩; have fp := ((unhide RR).below hb).cells.fp; have ps := ((unhide RR).below hb).cells.ps (f / 32) hf.2)
  go_ret2
  exact ⟨rfl, by assumption⟩

set_option maxHeartbeats 400000 in
theorem checkWord_any (L : HL) (s : St) (a : Int) (w : World) (R : Rep w L s) (ok : s.ok) :
    Calls Tryd.prog 39 #[.pointer (some ⟨L.h, 0, none⟩), .int .i64 a] w fun e w' => e = .returned (.int .i64 (if a % 8 ≠ 0 then 4 else if s.at a = none then 5 else 0)) ∧ Below w.heap.size w w' := by
  by_cases c1 : a % 8 = 0
  · have hm : (a.tmod 8 == 0) = true := by simpa using (tmod8 a).2 c1
    have hm' : (a.tmod 8 != 0) = false := by simpa using (tmod8 a).2 c1
    have := objectAt_any L s a w R ok
    by_cases c2 : s.at a = none
    · rw [if_neg (by omega), if_pos c2]
      rw [c2] at this
      have C := hide this
      clear this c2
      unfold optInt at C
      go_enter Tryd.func39, Tryd.ntmps39
      go_wp2_with (go_at_call 38; refine (unhide C).mono ?_; rintro e w' ⟨rfl, hb⟩)
      go_ret
      exact ⟨rfl, by assumption⟩
    · rw [if_neg (by omega), if_neg c2]
      obtain ⟨f, hf⟩ := Option.ne_none_iff_exists'.1 c2
      rw [hf] at this
      have C := hide this
      have hlt := St.at_lt ok hf
      have n2 := R.n2
      clear this c2 hf
      unfold optInt at C
      go_enter Tryd.func39, Tryd.ntmps39
      go_wp2_with (go_at_call 38; refine (unhide C).mono ?_; rintro e w' ⟨rfl, hb⟩)
      go_ret
      exact ⟨rfl, by assumption⟩
  · have hm : (a.tmod 8 == 0) = false := by simpa using fun e => c1 ((tmod8 a).1 e)
    have hm' : (a.tmod 8 != 0) = true := by simpa using fun e => c1 ((tmod8 a).1 e)
    rw [if_pos c1]
    go_enter Tryd.func39, Tryd.ntmps39
    go_wp2
    go_ret
    exact ⟨rfl, Below.refl _ _⟩
end Go.Proofs.YtgegkcjllliifabDoor
