/-
  The walks of Sweep and leaveUnswept.
-/
import Derived.Test.YtgegkcjllliifabDoorHLaid
namespace Go.Proofs.YtgegkcjllliifabDoor
open Go.RowKit

/-- The last m pages, with l runs to be looked through yet. -/
def swp : Nat → St → Int → St
  | 0, s, _ => s
  | m + 1, s, l => if l ≤ 0 then s else if s.uns (s.n - (m + 1)) then swp m (s.tidied (s.n - (m + 1))) (l - 1) else swp m s l
def St.swept (s : St) (l : Int) : St := swp s.n s l
theorem swp_step (s : St) (k : Nat) (l : Int) (h : k < s.n) : swp (s.n - k) s l = if l ≤ 0 then s else if s.uns k then swp (s.n - (k + 1)) (s.tidied k) (l - 1) else swp (s.n - (k + 1)) s l := by
  obtain ⟨m, hm⟩ : ∃ m, s.n - k = m + 1 := ⟨s.n - k - 1, by omega⟩
  have e : s.n - (m + 1) = k := by omega
  have e' : s.n - (k + 1) = m := by omega
  rw [hm, e', swp, e]

set_option maxHeartbeats 800000 in
theorem sweep_any (L : HL) (s : St) (l : Int) (w : World) (R : Rep w L s) (wf : WF s) (l1 : -9223372036854775808 ≤ l) (l2 : l ≤ 9223372036854775807) :
    Calls Tryd.prog 42 #[.pointer (some ⟨L.h, 0, none⟩), .int .i64 l] w fun e w' => e = .returned (.tuple #[]) ∧ Rep w' L (s.swept l) ∧ Touch L.blocks w w' := by
  have n2 := R.n2
  have fp := R.cells.fp
  have RR := hide R
  have HW := hide wf
  clear R wf
  go_enter Tryd.func42, Tryd.ntmps42
  go_wp2
  go_loopw [4, 12] (fun r i wr => ∃ (k : Nat) (x : Int) (t : St), k ≤ s.n ∧ i = .int .i64 k ∧ r = .int .i64 x ∧ -9223372036854775808 ≤ x ∧ x ≤ 9223372036854775807 ∧ Hid (Rep wr L t) ∧ Hid (WF t) ∧ Hid (t.n = s.n) ∧ Hid (Touch L.blocks w wr) ∧ Hid (s.swept l = swp (s.n - k) t x)) (fun _ i _ => 50 - (intOf i).toNat)
  case atStart => exact ⟨0, l, s, by omega, rfl, rfl, l1, l2, RR, HW, hide rfl, hide (Touch.refl _ _), hide rfl⟩
  case round =>
    obtain ⟨k, x, t, hk, rfl, rfl, x1, x2, R', W', N', T', E'⟩ := hrel
    clear fp
    by_cases hlt : k < s.n
    · have hlt' : k < t.n := by rw [unhide N']; exact hlt
      have cc := (unhide R').cells
      have fp := cc.fp
      rw [unhide N'] at fp
      have pu := cc.pu k hlt'
      clear cc
      have hstep := swp_step t k x hlt'
      rw [unhide N'] at hstep
      by_cases c1 : x ≤ 0
      · rw [if_pos c1] at hstep
        have HF : Hid (s.swept l = t) := (unhide E').trans hstep
        clear hstep
        go_wp2
        refine bodyPost_ret (results_none rfl _ _ _) rfl ?_
        exact ⟨rfl, by rw [unhide HF]; exact unhide R', unhide T'⟩
      · rw [if_neg c1] at hstep
        by_cases c2 : t.uns k = true
        · rw [if_pos c2] at hstep
          have HS := hide ((unhide E').trans hstep)
          have C := hide (tidy_any L t k _ (unhide R') ((unhide W').rb hlt'))
          have HW2 := hide ((unhide W').tidied hlt')
          rw [c2] at pu
          clear hstep c2
          go_wp2_with fail
          refine (unhide C).mono ?_
          rintro e w2 ⟨rfl, r2, t2⟩
          have R2 := hide r2
          have T2 := hide ((unhide T').trans t2 (fun i hi => .inl hi))
          clear r2 t2 fp pu
          go_wp2
          go_roundw
          case rel => exact ⟨k + 1, x - 1, _, by omega, by go_num, by go_num, by omega, by omega, R2, HW2, hide (unhide N'), T2, HS⟩
          case measure => simp [intOf]; omega
        · rw [if_neg c2] at hstep
          have HS := hide ((unhide E').trans hstep)
          have c2' : t.uns k = false := by simpa using c2
          rw [c2'] at pu
          clear hstep c2 c2'
          go_wp2
          go_roundw
          case rel => exact ⟨k + 1, x, t, by omega, by go_num, rfl, x1, x2, R', W', N', T', HS⟩
          case measure => simp [intOf]; omega
    · have HF : Hid (s.swept l = t) := by
        have := unhide E'
        rw [show s.n - k = 0 by omega] at this
        exact this
      go_wp2
      go_end0
      exact ⟨rfl, by rw [unhide HF]; exact unhide R', unhide T'⟩

theorem swp_wf : ∀ (m : Nat) (s : St) (l : Int), m ≤ s.n → WF s → WF (swp m s l) ∧ (swp m s l).n = s.n
  | 0, s, l, _, h => ⟨h, rfl⟩
  | m + 1, s, l, hm, h => by
    unfold swp
    split
    · exact ⟨h, rfl⟩
    · split
      · exact swp_wf m (s.tidied (s.n - (m + 1))) (l - 1) (show m ≤ s.n by omega) (h.tidied (by omega))
      · exact swp_wf m s l (by omega) h

/-- All pages in use are unswept, up to page k. -/
def lvK (s : St) (k : Nat) : St := { s with uns := fun q => if q < k then s.size q != 0 else s.uns q }
theorem lvK_step (s : St) (k : Nat) : (lvK s k).setUn k (s.size k != 0) = lvK s (k + 1) := by
  simp only [lvK, St.setUn]
  congr 1
  funext q
  unfold upd
  by_cases c : q = k
  · rw [if_pos c, if_pos (by omega), c]
  · by_cases c1 : q < k
    · rw [if_neg c]; dsimp only; rw [if_pos c1, if_pos (by omega)]
    · rw [if_neg c]; dsimp only; rw [if_neg c1, if_neg (by omega)]

set_option maxHeartbeats 1600000 in
theorem leaveUnswept_any (L : HL) (s : St) (w : World) (R : Rep w L s) :
    Calls Tryd.prog 46 #[.pointer (some ⟨L.h, 0, none⟩)] w fun e w' => e = .returned (.tuple #[]) ∧ Rep w' L (lvK s s.n) ∧ Touch L.blocks w w' := by
  have n2 := R.n2
  have fp := R.cells.fp
  have RR := hide R
  clear R
  go_enter Tryd.func46, Tryd.ntmps46
  go_wp2
  go_loopw [8] (fun i wr => ∃ k : Nat, k ≤ s.n ∧ i = .int .i64 k ∧ Hid (Rep wr L (lvK s k)) ∧ Hid (Touch L.blocks w wr)) (fun i _ => 50 - (intOf i).toNat)
  case atStart => exact ⟨0, by omega, rfl, hide (by have : lvK s 0 = s := by simp [lvK]
                                                    rw [this]; exact unhide RR), hide (Touch.refl _ _)⟩
  case round =>
    obtain ⟨k, hk, rfl, R', T'⟩ := hrel
    clear fp
    by_cases hlt : k < s.n
    · have cc := (unhide R').cells
      have fp := cc.fp
      have ps := cc.ps k hlt
      have pu := cc.pu k hlt
      have pz := cc.pz
      have e1 : (lvK s k).n = s.n := rfl
      have e2 : (lvK s k).size k = s.size k := rfl
      rw [e1] at fp
      rw [e2] at ps
      have hk0 : (0 : Int) ≤ (k : Int) := by omega
      have hk1 : (k : Int) < (s.n : Int) := by omega
      clear cc e1 e2
      go_wp2_with fail
      go_region
      all_goals go_wp2
      all_goals go_roundw
      all_goals first
        | exact ⟨k + 1, by omega, by go_num, hide (by rw [← lvK_step]; exact ((unhide R').setUn k _).drew), hide (((unhide T').set _ _ _ (.inl (by simp [HL.blocks]))).below (Below.refl _ _).drew)⟩
        | (simp [intOf]; omega)
    · obtain rfl : k = s.n := by omega
      go_wp2
      go_end0
      exact ⟨rfl, unhide R', unhide T'⟩
end Go.Proofs.YtgegkcjllliifabDoor
