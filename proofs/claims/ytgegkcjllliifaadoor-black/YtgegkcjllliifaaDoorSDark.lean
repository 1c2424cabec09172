/-
  A page that is black: nothing but atomic objects comes there.
-/
import Derived.Test.YtgegkcjllliifaaDoorHMore
namespace Go.Proofs.YtgegkcjllliifaaDoor
open Go.RowKit

structure Dark (n p : Nat) (s : St) : Prop where
  sn : s.n = n
  wf : WF s
  lt : p < n
  blk : ∀ q, s.blk q = true ↔ q = p
  z : s.size p = 0
  nb : s.any p = false
theorem Dark.held {n p : Nat} {s : St} (h : Dark n p s) : s.held p = false := by
  have hb := h.wf.sm p (by rw [h.sn]; exact h.lt) (by rw [h.z]; omega)
  unfold St.held
  rw [hb]
  exact h.nb
theorem Dark.away {n p k sz : Nat} {at' : Bool} {s : St} (h : Dark n p s) (z1 : 1 ≤ sz) (hp : s.place sz at' = some k) : (∀ j, j < (sz + 31) / 32 → k / 32 + j ≠ p) ∨ (at' = true ∧ ∃ F, Alone s sz at' F k) := by
  rcases place_some z1 hp with ⟨q, b⟩ | ⟨⟨F, a⟩, _⟩
  · left
    obtain ⟨i, e1, e2, _, _⟩ := b.pos
    have c16 := b.sz16
    intro j hj e
    have eq : q = p := by omega
    have := b.held
    rw [eq, h.held] at this
    cases this
  · cases at'
    · left
      intro j hj e
      have := a.free j hj
      have ek : k / 32 = F := by have := a.pos; omega
      unfold St.free at this
      rw [show F + j = p by omega, (h.blk p).2 rfl] at this
      simp at this
    · exact .inr ⟨rfl, F, a⟩
theorem Dark.lay {n p k sz : Nat} {at' : Bool} {s t : St} (h : Dark n p s) (z1 : 1 ≤ sz) (l : LaidTo s k sz at' t) (ha : ∀ j, j < (sz + 31) / 32 → k / 32 + j ≠ p) : Dark n p t := by
  have hout : ¬ (k / 32 ≤ p ∧ p < k / 32 + (sz + 31) / 32) := fun ⟨a, b⟩ => ha (p - k / 32) (by omega) (by omega)
  refine ⟨l.n.trans h.sn, l.wf, h.lt, fun q => by rw [l.blk]; exact h.blk q, ?_, ?_⟩
  · rcases l.page p hout with ⟨a, _⟩ | ⟨a, _⟩
    · rw [a]; exact h.z
    · exact a
  · cases hh : t.any p with
    | false => rfl
    | true =>
      rw [any_iff] at hh
      obtain ⟨j, j1, j2, j3⟩ := hh
      have : j ≠ k := fun e => hout (by omega)
      rw [l.beg, upd_other _ _ _ _ this] at j3
      have := any_true (s := s) (p := p) j1 j2 j3
      rw [h.nb] at this
      cases this
theorem Dark.roots {n p : Nat} {s : St} (h : Dark n p s) (l : List Int) : Dark n p { s with roots := l } := ⟨h.sn, h.wf.roots l, h.lt, h.blk, h.z, h.nb⟩
theorem Dark.setWd {n p : Nat} {s : St} (h : Dark n p s) (k : Nat) (v : Int) : Dark n p (s.setWd k v) := ⟨h.sn, h.wf.setWd k v, h.lt, h.blk, h.z, h.nb⟩

/-- The object does not lie on page p. -/
theorem Dark.clear {n p k sz : Nat} {at' : Bool} {s t : St} (h : Dark n p s) (z1 : 1 ≤ sz) (zg : 16 < sz → sz % 32 = 0) (l : LaidTo s k sz at' t) (ha : ∀ j, j < (sz + 31) / 32 → k / 32 + j ≠ p) : k + sz ≤ p * 32 ∨ (p + 1) * 32 ≤ k := by
  obtain ⟨b1, b2, b3, b4⟩ := l.wf.bg k l.begNew
  rw [(l.sizeNew z1).1] at b3 b4
  have hlt := h.lt
  have h0 := ha 0 (by omega)
  by_cases c : sz ≤ 16
  · have := (b3 (by omega)).2
    simp at this
    omega
  · have m := (b4 (by omega)).2
    have zz := zg (by omega)
    by_cases c2 : k / 32 < p
    · left
      have : ¬ (p - k / 32 < (sz + 31) / 32) := fun e => ha _ e (by omega)
      omega
    · right; omega

theorem cntF_imp {f g : Nat → Bool} : ∀ {n : Nat}, (∀ k, k < n → f k = true → g k = true) → cntF f n ≤ cntF g n
  | 0, _ => Nat.le_refl _
  | n + 1, h => by
    have ih := cntF_imp (f := f) (g := g) (n := n) fun k hk => h k (by omega)
    unfold cntF
    cases h1 : f n with
    | false => simp; omega
    | true => rw [h n (by omega) h1]; simp; omega

/-- An atomic object of a page of its own elsewhere: one page more holds something. -/
theorem Dark.more {n p k : Nat} {s t : St} (h : Dark n p s) {F : Nat} (a : Alone s 32 true F k) (l : LaidTo s k 32 true t) : cntF s.held n + 1 ≤ cntF t.held n := by
  have ek : k / 32 = F := by have := a.pos; omega
  have hF : F < n := by have := a.le; rw [h.sn] at this; omega
  have hfF : s.held F = false := by
    have := a.free 0 (by omega)
    rw [Nat.add_zero] at this
    exact free_held this
  rw [← cntF_upd hF hfF]
  refine cntF_imp fun q hq hh => ?_
  by_cases e : q = F
  · obtain ⟨n1, n2, n3, n4⟩ := l.run F (by omega) (by omega)
    rw [e]
    unfold St.held
    rw [n3, any_iff]
    exact ⟨k, by simp; omega, by simp; omega, l.begNew⟩
  · rw [upd_other _ _ _ _ e] at hh
    rcases l.page q (by omega) with ⟨_, _, c, _⟩ | ⟨_, _, c⟩
    · unfold St.held at hh ⊢
      rw [any_iff] at hh ⊢
      obtain ⟨j, j1, j2, j3⟩ := hh
      rw [c]
      refine ⟨j, j1, j2, ?_⟩
      rw [l.beg]; unfold upd; split
      · rfl
      · exact j3
    · rw [c] at hh; cases hh
theorem Dark.bound {n p : Nat} {s : St} (h : Dark n p s) : cntF s.held n + 1 ≤ n := by
  rw [← cntF_upd h.lt h.held]
  exact cntF_le _ _
theorem Dark.room {n p : Nat} {s : St} (h : Dark n p s) : ∃ k F, s.place 32 true = some k ∧ Alone s 32 true F k := by
  cases hp : s.place 32 true with
  | none =>
    exfalso
    obtain ⟨j, j1, j2⟩ := (place_none (by omega) hp).2 p (by rw [h.sn]; have := h.lt; omega)
    obtain rfl : j = 0 := by omega
    unfold St.free at j2
    rw [Nat.add_zero, h.held] at j2
    simp at j2
  | some k =>
    rcases place_some (by omega) hp with ⟨q, b⟩ | ⟨⟨F, a⟩, _⟩
    · have := b.sz16; omega
    · exact ⟨k, F, rfl, a⟩

/-- Behind a collection of an empty heap with one root, in page p. -/
theorem dark_init {n r p : Nat} {x : Int} {stays black : Nat → Bool} {ag : Nat} (hp : p < n) (hx : 1048576 + (p : Int) * 256 ≤ x) (hx2 : x < 1048576 + (p : Int) * 256 + 256) (hm : Marked { St.init n r with roots := [x] } stays black) (hw : WF (St.collected { St.init n r with roots := [x] } stays black ag)) : Dark n p (St.collected { St.init n r with roots := [x] } stays black ag) ∧ cntF (St.collected { St.init n r with roots := [x] } stays black ag).beg (n * 32) = 0 := by
  have wf0 : WF { St.init n r with roots := [x] } := (WF.init n r).roots _
  have hat : ∀ y, St.at { St.init n r with roots := [x] } y = none := fun y => init_at n r y
  have hst : ∀ k, stays k = false := fun k => by
    cases h : stays k with
    | false => rfl
    | true =>
      have := Reach.beg wf0 ((hm.stay k).1 h)
      cases this
  refine ⟨⟨rfl, hw, hp, fun q => ?_, rfl, any_false fun k _ _ => hst k⟩, cntF_zero fun k _ => hst k⟩
  show black q = true ↔ q = p
  rw [hm.blk q]
  constructor
  · rintro ⟨y, hy, hin, _, rfl⟩
    rcases hy with hy | ⟨j, i, hj, _⟩
    · have : y = x := List.mem_singleton.1 hy
      rw [this]
      unfold pgOf
      omega
    · have := Reach.beg wf0 hj
      cases this
  · rintro rfl
    refine ⟨x, .inl (List.mem_singleton.2 rfl), ⟨by omega, by show x < 1048576 + 256 * (n : Int); omega⟩, hat x, ?_⟩
    unfold pgOf
    omega
end Go.Proofs.YtgegkcjllliifaaDoor
