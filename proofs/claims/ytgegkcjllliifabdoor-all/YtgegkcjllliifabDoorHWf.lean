/-
  What the heap's tables keep to, and that tidying keeps it.
-/
import Derived.Test.YtgegkcjllliifabDoorHAlloc
namespace Go.Proofs.YtgegkcjllliifabDoor
open Go.RowKit

structure WF (s : St) : Prop where
  z0 : ∀ p, p < s.n → 0 ≤ s.size p
  z1 : ∀ p, p < s.n → s.size p ≤ 1536
  sm : ∀ p, p < s.n → s.size p ≤ 16 → s.back p = 0
  gm : ∀ p, p < s.n → 16 < s.size p → s.size p % 32 = 0
  gb : ∀ p, p < s.n → 16 < s.size p → 0 ≤ s.back p ∧ s.back p ≤ p ∧ s.back p < s.size p / 32
  gr : ∀ p, p < s.n → 16 < s.size p → ∀ j : Nat, (j : Int) < s.size p / 32 → p - (s.back p).toNat + j < s.n ∧ s.size (p - (s.back p).toNat + j) = s.size p ∧ s.atom (p - (s.back p).toNat + j) = s.atom p ∧ s.back (p - (s.back p).toNat + j) = j
  bg : ∀ k, s.beg k = true → k < s.n * 32 ∧ 0 < s.size (k / 32) ∧ (s.size (k / 32) ≤ 16 → k % 32 % (s.size (k / 32)).toNat = 0 ∧ k % 32 + (s.size (k / 32)).toNat ≤ 32) ∧ (16 < s.size (k / 32) → s.back (k / 32) = 0 ∧ k % 32 = 0)
  un : ∀ p, p < s.n → 0 < s.size p → s.uns p = false → s.held p = true
  uz : ∀ p, p < s.n → s.uns p = true → 0 < s.size p

theorem WF.ok {s : St} (h : WF s) : s.ok := by
  intro p hp
  have a := h.z0 p hp
  have b := h.z1 p hp
  by_cases c : s.size p ≤ 16
  · have := h.sm p hp c; omega
  · have := h.gb p hp (by omega); omega

/-- The run of page p, in numbers. -/
theorem WF.run {s : St} (h : WF s) {p : Nat} (hp : p < s.n) : (s.size p = 0 ∧ s.first p = p ∧ s.count p = 0) ∨ (0 < s.size p ∧ s.size p ≤ 16 ∧ s.first p = p ∧ s.count p = 1) ∨
    (16 < s.size p ∧ s.first p = p - (s.back p).toNat ∧ (s.count p : Int) = s.size p / 32 ∧ s.first p ≤ p ∧ p < s.first p + s.count p) := by
  have a := h.z0 p hp
  have b := h.z1 p hp
  by_cases c : s.size p ≤ 16
  · have e := h.sm p hp c
    have f : s.first p = p := by unfold St.first; rw [e]; rfl
    by_cases c0 : s.size p = 0
    · left
      refine ⟨c0, f, ?_⟩
      unfold St.count; rw [f, c0]; rfl
    · right; left
      refine ⟨by omega, c, f, ?_⟩
      unfold St.count; rw [f]; omega
  · right; right
    have e := h.gb p hp (by omega)
    have g := h.gr p hp (by omega) 0 (by omega)
    have m := h.gm p hp (by omega)
    have f : s.first p = p - (s.back p).toNat := rfl
    have hc : (s.count p : Int) = s.size p / 32 := by
      unfold St.count
      rw [f, show p - (s.back p).toNat = p - (s.back p).toNat + 0 from rfl, g.2.1]
      omega
    exact ⟨by omega, f, hc, by omega, by omega⟩
theorem WF.rb {s : St} (h : WF s) {p : Nat} (hp : p < s.n) : s.RB p := by
  have o := h.ok p hp
  have fl : s.first p < s.n := by unfold St.first; omega
  refine ⟨hp, o.2.2.1, o.2.2.2, h.z0 _ fl, h.z1 _ fl, ?_⟩
  rcases h.run hp with ⟨a, b, c⟩ | ⟨a, b, c, d⟩ | ⟨a, b, c, d, e⟩
  · omega
  · omega
  · have := (h.gr p hp a (s.count p - 1) (by omega)).1
    omega

/-- A page of p's run: what it says. -/
theorem WF.inrun {s : St} (h : WF s) {p q : Nat} (hp : p < s.n) (h1 : s.first p ≤ q) (h2 : q < s.first p + s.count p) : q < s.n ∧ s.size q = s.size p ∧ s.atom q = s.atom p ∧ s.first q = s.first p ∧ (s.size p ≤ 16 → q = p) := by
  rcases h.run hp with ⟨a, b, c⟩ | ⟨a, b, c, d⟩ | ⟨a, b, c, d, e⟩
  · omega
  · obtain rfl : q = p := by omega
    exact ⟨hp, rfl, rfl, rfl, fun _ => rfl⟩
  · obtain ⟨g1, g2, g3, g4⟩ := h.gr p hp a (q - s.first p) (by omega)
    rw [← b, show s.first p + (q - s.first p) = q by omega] at g1 g2 g3 g4
    refine ⟨g1, g2, g3, ?_, by omega⟩
    unfold St.first at h1 ⊢
    rw [g4]
    unfold St.first
    omega
/-- Two runs are the same or apart. -/
theorem WF.apart {s : St} (h : WF s) {p q r : Nat} (hp : p < s.n) (hq : q < s.n) (h1 : s.first p ≤ r) (h2 : r < s.first p + s.count p) (h3 : s.first q ≤ r) (h4 : r < s.first q + s.count q) : s.first p ≤ q ∧ q < s.first p + s.count p := by
  obtain ⟨a1, a2, _, a3, a4⟩ := h.inrun hp h1 h2
  obtain ⟨b1, b2, _, b3, b4⟩ := h.inrun hq h3 h4
  have hs : s.size q = s.size p := b2.symm.trans a2
  have hf : s.first q = s.first p := b3.symm.trans a3
  rcases h.run hq with ⟨a, b, c⟩ | ⟨a, b, c, d⟩ | ⟨a, b, c, d, e⟩
  · omega
  · rcases h.run hp with ⟨a', b', c'⟩ | ⟨a', b', c', d'⟩ | ⟨a', b', c', d', e'⟩ <;> omega
  · rcases h.run hp with ⟨a', b', c'⟩ | ⟨a', b', c', d'⟩ | ⟨a', b', c', d', e'⟩ <;> omega

/-- No object begins on a page of a run but its first. -/
theorem WF.bgrun {s : St} (h : WF s) {p k : Nat} (hp : p < s.n) (hk : s.beg k = true) (h1 : s.first p ≤ k / 32) (h2 : k / 32 < s.first p + s.count p) : k / 32 = s.first p := by
  obtain ⟨a1, a2, _, a3, a4⟩ := h.inrun hp h1 h2
  obtain ⟨b1, b2, b3, b4⟩ := h.bg k hk
  by_cases c : s.size p ≤ 16
  · have := a4 c
    rcases h.run hp with ⟨a, b, c⟩ | ⟨a, b, c, d⟩ | ⟨a, b, c, d, e⟩ <;> omega
  · have := (b4 (by omega)).1
    rw [← a3]
    unfold St.first
    rw [this]
    rfl

theorem tidK_false (s : St) (f k : Nat) : (tidK s f false k).size = s.size ∧ (tidK s f false k).atom = s.atom ∧ (tidK s f false k).back = s.back := by
  refine ⟨?_, ?_, ?_⟩ <;> (funext q; simp [tidK])

theorem tid_in {s : St} {p q : Nat} (he : s.any (s.first p) = false) (h : s.first p ≤ q ∧ q < s.first p + s.count p) : (s.tidied p).size q = 0 ∧ (s.tidied p).atom q = false ∧ (s.tidied p).back q = 0 ∧ (s.tidied p).uns q = false := by
  simp [St.tidied, tidK, he, h]
theorem tid_out {s : St} {p q : Nat} (h : ¬ (s.first p ≤ q ∧ q < s.first p + s.count p)) : (s.tidied p).size q = s.size q ∧ (s.tidied p).atom q = s.atom q ∧ (s.tidied p).back q = s.back q ∧ (s.tidied p).uns q = s.uns q := by
  have h' : ¬ ((!s.any (s.first p)) = true ∧ s.first p ≤ q ∧ q < s.first p + s.count p) := fun e => h e.2
  simp only [St.tidied, tidK]
  rw [if_neg h', if_neg h', if_neg h', if_neg h]
  exact ⟨rfl, rfl, rfl, rfl⟩
theorem tid_keep {s : St} {p q : Nat} (he : s.any (s.first p) = true) (h : s.first p ≤ q ∧ q < s.first p + s.count p) : (s.tidied p).size q = s.size q ∧ (s.tidied p).atom q = s.atom q ∧ (s.tidied p).back q = s.back q ∧ (s.tidied p).uns q = false := by
  simp [St.tidied, tidK, he, h]

theorem tid_held {s : St} (h : WF s) {p q : Nat} (hp : p < s.n) : (s.tidied p).held q = s.held q := by
  have e : ∀ r, (s.tidied p).any r = s.any r := fun _ => rfl
  unfold St.held
  rw [e]
  by_cases c : s.first p ≤ q ∧ q < s.first p + s.count p
  · cases he : s.any (s.first p) with
    | true => rw [(tid_keep he c).2.2.1]
    | false =>
      rw [(tid_in he c).2.2.1]
      have hf := (h.inrun hp c.1 c.2).2.2.2.1
      have h1 : s.any (q - (0 : Int).toNat) = false := by
        apply any_false
        intro k k1 k2
        cases hb : s.beg k with
        | false => rfl
        | true =>
          have hk : k / 32 = q := by simp at k1 k2; omega
          have := h.bgrun hp hb (by omega) (by omega)
          have := any_true (s := s) (p := s.first p) (k := k) (by omega) (by omega) hb
          rw [this] at he
          cases he
      rw [h1]
      unfold St.first at hf he
      rw [hf]
      exact he.symm
  · rw [(tid_out c).2.2.1]

theorem WF.tidied {s : St} (h : WF s) {p : Nat} (hp : p < s.n) : WF (s.tidied p) := by
  have tr : ∀ q, (s.first p ≤ q ∧ q < s.first p + s.count p) ∧ s.any (s.first p) = false ∨ (s.tidied p).size q = s.size q ∧ (s.tidied p).atom q = s.atom q ∧ (s.tidied p).back q = s.back q := by
    intro q
    by_cases c : s.first p ≤ q ∧ q < s.first p + s.count p
    · cases he : s.any (s.first p) with
      | true => right; have := tid_keep he c; exact ⟨this.1, this.2.1, this.2.2.1⟩
      | false => left; exact ⟨c, rfl⟩
    · right; have := tid_out c; exact ⟨this.1, this.2.1, this.2.2.1⟩
  have hn : (s.tidied p).n = s.n := rfl
  refine ⟨fun q hq => ?_, fun q hq => ?_, fun q hq c => ?_, fun q hq c => ?_, fun q hq c => ?_, fun q hq c j hj => ?_, fun k hk => ?_, fun q hq c u => ?_, fun q hq u => ?_⟩
  · rcases tr q with ⟨e, he⟩ | e
    · rw [(tid_in he e).1]; omega
    · rw [e.1]; exact h.z0 q hq
  · rcases tr q with ⟨e, he⟩ | e
    · rw [(tid_in he e).1]; omega
    · rw [e.1]; exact h.z1 q hq
  · rcases tr q with ⟨e, he⟩ | e
    · exact (tid_in he e).2.2.1
    · rw [e.1] at c; rw [e.2.2]; exact h.sm q hq c
  · rcases tr q with ⟨e, he⟩ | e
    · rw [(tid_in he e).1] at c; omega
    · rw [e.1] at c ⊢; exact h.gm q hq c
  · rcases tr q with ⟨e, he⟩ | e
    · rw [(tid_in he e).1] at c; omega
    · rw [e.1] at c ⊢; rw [e.2.2]; exact h.gb q hq c
  · rcases tr q with ⟨e, he⟩ | e
    · rw [(tid_in he e).1] at c; omega
    · rw [e.1] at c hj ⊢
      rw [e.2.1, e.2.2]
      obtain ⟨g1, g2, g3, g4⟩ := h.gr q hq c j hj
      rcases h.run (p := q) hq with ⟨a, b, _⟩ | ⟨a, b, _, _⟩ | ⟨a, b, c', d, e'⟩
      · omega
      · omega
      · rcases tr (q - (s.back q).toNat + j) with ⟨x, he⟩ | x
        · have := h.apart hp hq (r := q - (s.back q).toNat + j) x.1 x.2 (by omega) (by omega)
          have z := (tid_in he this).1
          rw [e.1] at z
          omega
        · rw [x.1, x.2.1, x.2.2]
          exact ⟨g1, g2, g3, g4⟩
  · obtain ⟨b1, b2, b3, b4⟩ := h.bg k hk
    rcases tr (k / 32) with ⟨e, he⟩ | e
    · have := h.bgrun hp hk e.1 e.2
      have := any_true (s := s) (p := s.first p) (k := k) (by omega) (by omega) hk
      rw [this] at he
      cases he
    · rw [e.1, e.2.2]
      exact ⟨b1, b2, b3, b4⟩
  · rw [tid_held h hp]
    by_cases e : s.first p ≤ q ∧ q < s.first p + s.count p
    · cases he : s.any (s.first p) with
      | true =>
        have hf := (h.inrun hp e.1 e.2).2.2.2.1
        unfold St.held
        unfold St.first at hf he
        rw [hf]
        exact he
      | false => rw [(tid_in he e).1] at c; omega
    · rw [(tid_out e).1] at c
      rw [(tid_out e).2.2.2] at u
      exact h.un q hq c u
  · by_cases e : s.first p ≤ q ∧ q < s.first p + s.count p
    · cases he : s.any (s.first p) with
      | true => rw [(tid_keep he e).2.2.2] at u; cases u
      | false => rw [(tid_in he e).2.2.2] at u; cases u
    · rw [(tid_out e).2.2.2] at u
      rw [(tid_out e).1]
      exact h.uz q hq u
end Go.Proofs.YtgegkcjllliifabDoor
