/-
  The edges: New's wrong arguments; Sweep below zero, and what it counts.
-/
import Derived.Test.YtgegkcjllliifabDoorHView2
import Derived.Test.YtgegkcjllliifabDoorHNew
namespace Go.Proofs.YtgegkcjllliifabDoor
open Go.RowKit

set_option maxHeartbeats 400000 in
theorem hNew_err (n r t : Int) (w : World) (h : n < 1 ∨ 48 < n ∨ r < 1 ∨ 16 < r ∨ t < 0 ∨ 4096 < t) :
    Calls Tryd.prog 33 #[.int .i64 n, .int .i64 r, .int .i64 t] w fun e w' => e = .returned (.tuple #[.pointer none, .int .i64 1]) ∧ Below w.heap.size w w' := by
  by_cases c1 : n < 1
  · go_enter Tryd.func33, Tryd.ntmps33
    go_wp2
    go_ret2
    exact ⟨rfl, Below.refl _ _⟩
  by_cases c2 : 48 < n
  · go_enter Tryd.func33, Tryd.ntmps33
    go_wp2
    go_ret2
    exact ⟨rfl, Below.refl _ _⟩
  by_cases c3 : r < 1
  · go_enter Tryd.func33, Tryd.ntmps33
    go_wp2
    go_ret2
    exact ⟨rfl, Below.refl _ _⟩
  by_cases c4 : 16 < r
  · go_enter Tryd.func33, Tryd.ntmps33
    go_wp2
    go_ret2
    exact ⟨rfl, Below.refl _ _⟩
  by_cases c5 : t < 0
  · go_enter Tryd.func33, Tryd.ntmps33
    go_wp2
    go_ret2
    exact ⟨rfl, Below.refl _ _⟩
  have c6 : 4096 < t := by omega
  go_enter Tryd.func33, Tryd.ntmps33
  go_wp2
  go_ret2
  exact ⟨rfl, Below.refl _ _⟩

set_option maxHeartbeats 800000 in
theorem sweep_low (L : HL) (s : St) (l : Int) (w : World) (R : Rep w L s) (hl : l ≤ 0) :
    Calls Tryd.prog 42 #[.pointer (some ⟨L.h, 0, none⟩), .int .i64 l] w fun e w' => e = .returned (.tuple #[]) ∧ w' = w := by
  have n2 := R.n2
  have n1 := R.n1
  have fp := R.cells.fp
  clear R
  go_enter Tryd.func42, Tryd.ntmps42
  go_wp2
  go_loopw [4, 12] (fun r i wr => i = .int .i64 0 ∧ r = .int .i64 l ∧ Hid (wr = w)) (fun _ _ _ => 1)
  case atStart => exact ⟨rfl, rfl, hide rfl⟩
  case round =>
    obtain ⟨rfl, rfl, e⟩ := hrel
    have fp' := fp
    rw [← unhide e] at fp'
    go_wp2
    refine bodyPost_ret (results_none rfl _ _ _) rfl ?_
    exact ⟨rfl, unhide e⟩

theorem cntF_less {f g : Nat → Bool} {q : Nat} : ∀ {n : Nat}, (∀ k, k < n → f k = true → g k = true) → q < n → g q = true → f q = false → cntF f n + 1 ≤ cntF g n
  | 0, _, hq, _, _ => absurd hq (by omega)
  | n + 1, h, hq, hg, hf => by
    unfold cntF
    by_cases e : q = n
    · subst e
      have : cntF f q ≤ cntF g q := by
        clear hq hg hf
        have h' : ∀ k, k < q → f k = true → g k = true := fun k hk => h k (by omega)
        clear h
        induction q with
        | zero => exact Nat.le_refl _
        | succ m ih =>
          unfold cntF
          have i2 := ih fun k hk => h' k (by omega)
          cases c : f m with
          | false => simp; omega
          | true => rw [h' m (by omega) c]; simp; omega
      rw [hg, hf]; simp; omega
    · have := cntF_less (n := n) (fun k hk => h k (by omega)) (by omega) hg hf
      cases c : f n with
      | false => simp; omega
      | true => rw [h n (by omega) c]; simp; omega

theorem swp_cnt : ∀ (m : Nat) (s : St) (l : Int), m ≤ s.n → WF s → 0 ≤ l → (∀ p, p < s.n - m → s.uns p = false) → cntF (swp m s l).uns s.n ≤ cntF s.uns s.n ∧ (l ≤ (cntF s.uns s.n : Int) - (cntF (swp m s l).uns s.n : Int) ∨ cntF (swp m s l).uns s.n = 0)
  | 0, s, l, _, _, _, hu => ⟨Nat.le_refl _, .inr (cntF_zero fun k hk => hu k (by omega))⟩
  | m + 1, s, l, hm, h, hl, hu => by
    unfold swp
    split
    · exact ⟨Nat.le_refl _, .inl (by omega)⟩
    · rename_i hl0
      have hq : s.n - (m + 1) < s.n := by omega
      split
      · rename_i hun
        have hz := h.uz _ hq hun
        have hin : s.first (s.n - (m + 1)) ≤ s.n - (m + 1) ∧ s.n - (m + 1) < s.first (s.n - (m + 1)) + s.count (s.n - (m + 1)) := by
          rcases h.run hq with ⟨a, _, _⟩ | ⟨a, b, c, d⟩ | ⟨a, b, c, d, e'⟩
          · omega
          · omega
          · exact ⟨d, e'⟩
        have hoff : (s.tidied (s.n - (m + 1))).uns (s.n - (m + 1)) = false := by
          cases hh : (s.tidied (s.n - (m + 1))).uns (s.n - (m + 1)) with
          | false => rfl
          | true => exact absurd hin (tid_uns hh).2
        have less : cntF (s.tidied (s.n - (m + 1))).uns s.n + 1 ≤ cntF s.uns s.n := cntF_less (fun k _ hk => (tid_uns hk).1) hq hun hoff
        obtain ⟨i1, i2⟩ := swp_cnt m (s.tidied (s.n - (m + 1))) (l - 1) (show m ≤ s.n by omega) (h.tidied hq) (by omega) (fun q hq' => by
          have hq2 : q < s.n - m := hq'
          cases hh : (s.tidied (s.n - (m + 1))).uns q with
          | false => rfl
          | true =>
            obtain ⟨h1, h2⟩ := tid_uns hh
            by_cases e : q = s.n - (m + 1)
            · rw [e] at h2; exact absurd hin h2
            · rw [hu q (by omega)] at h1; cases h1)
        have en : (s.tidied (s.n - (m + 1))).n = s.n := rfl
        rw [en] at i1 i2
        refine ⟨by omega, ?_⟩
        rcases i2 with i2 | i2
        · left; omega
        · exact .inr i2
      · rename_i hun
        refine swp_cnt m s l (by omega) h hl (fun q hq' => ?_)
        by_cases e : q = s.n - (m + 1)
        · rw [e]; simpa using hun
        · exact hu q (by omega)
end Go.Proofs.YtgegkcjllliifabDoor
