/-
  A first object; what is reached where words are 0; counting.
-/
import Derived.Test.YtgegkcjllliifabDoorHSays
namespace Go.Proofs.YtgegkcjllliifabDoor
open Go.RowKit

theorem init_any (n r p : Nat) : (St.init n r).any p = false := any_false fun _ _ _ => rfl
theorem init_free (n r p : Nat) (at' : Bool) : (St.init n r).free p at' = true := by
  unfold St.free St.held
  rw [init_any]
  rfl
theorem init_empty (n r count : Nat) (at' : Bool) (hn : count ≤ n) : ∀ (d j : Nat), j + d + 1 = count → emptyFrom (St.init n r) at' count ((St.init n r).n - j) j = some 0
  | 0, j, h => by
    rw [emptyFrom_step _ _ _ j j (by show j < n; omega), init_free, if_pos rfl, if_pos (by omega)]
    rw [show j + 1 - count = 0 by omega, Nat.zero_mul]
  | d + 1, j, h => by
    rw [emptyFrom_step _ _ _ j j (by show j < n; omega), init_free, if_pos rfl, if_neg (by omega)]
    exact init_empty n r count at' hn d (j + 1) (by omega)
theorem init_shared (n r sz : Nat) (at' : Bool) (hz : 1 ≤ sz) : ∀ m, sharedFrom (St.init n r) sz at' m = none
  | 0 => rfl
  | m + 1 => by
    unfold sharedFrom
    have e : (St.init n r).share sz at' ((St.init n r).n - (m + 1)) = none := if_neg fun h => by
      have : (0 : Int) = sz := h.1
      omega
    rw [e]
    exact init_shared n r sz at' hz m
/-- The first object of a heap lies at its beginning. -/
theorem place_init (n r sz : Nat) (at' : Bool) (hz : 1 ≤ sz) (hn : (sz + 31) / 32 ≤ n) : (St.init n r).place sz at' = some 0 := by
  unfold St.place
  have e : (if sz ≤ 16 then sharedFrom (St.init n r) sz at' (St.init n r).n else none) = none := by
    split
    · exact init_shared n r sz at' hz _
    · rfl
  rw [e]
  exact init_empty n r _ at' hn ((sz + 31) / 32 - 1) 0 (by omega)

theorem reach_zero {s : St} (hw : ∀ q, s.word q = 0) (h0 : s.at 0 = none) (x : Int) (k : Nat) : St.Reach { s with roots := [x] } k ↔ s.at x = some k := by
  constructor
  · intro h
    cases h with
    | root h1 h2 =>
      have e := List.mem_singleton.1 h1
      rw [e] at h2
      exact h2
    | word h1 h2 h3 h4 =>
      have e : ∀ q, (St.word { s with roots := [x] } q) = 0 := hw
      rw [e] at h4
      have h5 : s.at 0 = some k := h4
      rw [h0] at h5
      cases h5
  · intro h
    exact .root (List.mem_singleton.2 rfl) h
theorem at_zero (s : St) : s.at 0 = none := by unfold St.at; rw [if_neg (by omega)]

theorem WF.roots {s : St} (h : WF s) (l : List Int) : WF { s with roots := l } := ⟨h.z0, h.z1, h.sm, h.gm, h.gb, h.gr, h.bg, h.un, h.uz⟩

theorem sumW_zero {s : St} : ∀ {n : Nat}, (∀ k, k < n → s.beg k = false) → sumW s n = 0
  | 0, _ => rfl
  | n + 1, h => by unfold sumW; rw [sumW_zero fun k hk => h k (by omega), h n (by omega)]; rfl
theorem sumW_one {s : St} {k : Nat} : ∀ {n : Nat}, k < n → (∀ j, s.beg j = true ↔ j = k) → sumW s n = s.size (k / 32)
  | 0, h, _ => by omega
  | n + 1, h, hf => by
    unfold sumW
    by_cases e : k = n
    · subst e
      rw [(hf k).2 rfl, sumW_zero fun j hj => ?_]
      · simp
      · cases hh : s.beg j with
        | false => rfl
        | true => have := (hf j).1 hh; omega
    · rw [sumW_one (by omega) hf]
      have : s.beg n = false := by
        cases hh : s.beg n with
        | false => rfl
        | true => exact absurd ((hf n).1 hh).symm e
      rw [this]
      simp
theorem cntF_two {f : Nat → Bool} {a b : Nat} (n : Nat) (ha : a < n) (hb : b < n) (hab : a ≠ b) (hf : ∀ j, f j = true ↔ j = a ∨ j = b) : cntF f n = 2 := by
  have e : f = upd (fun j => decide (j = a)) b true := by
    funext j
    unfold upd
    by_cases c : j = b
    · rw [if_pos c]; exact (hf j).2 (.inr c)
    · rw [if_neg c]
      by_cases c2 : j = a
      · rw [(hf j).2 (.inl c2)]; simp [c2]
      · cases hh : f j with
        | false => simp [c2]
        | true => exact ((hf j).1 hh).elim (fun x => absurd x c2) (fun x => absurd x c)
  rw [e, cntF_upd hb (by simp; exact fun x => hab x.symm), cntF_one ha (fun j => by simp)]

/-- Nothing is reached: nothing is left, no page is in use. -/
theorem none_left {s t : St} (hr : s.roots = [0]) (c : Cleaned s t) : cntF t.beg (t.n * 32) = 0 ∧ sumW t (t.n * 32) = 0 ∧ t.used = 0 := by
  have key : ∀ q, s.Reach q → False := by
    intro q hq
    induction hq with
    | root h1 h2 =>
      rw [hr] at h1
      have e := List.mem_singleton.1 h1
      rw [e, at_zero] at h2
      cases h2
    | word _ _ _ _ ih => exact ih
  have hb : ∀ k, t.beg k = false := fun k => by
    cases h : t.beg k with
    | false => rfl
    | true => exact (key k ((c.beg k).1 h)).elim
  refine ⟨cntF_zero fun k _ => hb k, sumW_zero fun k _ => hb k, cntF_zero fun p hp => ?_⟩
  have z0 := c.wf.z0 p hp
  by_cases e : t.size p = 0
  · rw [e]; rfl
  · exfalso
    have := c.wf.un p hp (by omega) (c.uns p hp)
    unfold St.held at this
    rw [any_iff] at this
    obtain ⟨k, _, _, k3⟩ := this
    rw [hb k] at k3
    cases k3
end Go.Proofs.YtgegkcjllliifabDoor
