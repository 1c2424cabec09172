/-
  Objects of any sizes, all of them held by roots: they fill the first pages.
-/
import Derived.Test.YtgegkcjllliifabDoorSGrove
namespace Go.Proofs.YtgegkcjllliifabDoor
open Go.RowKit

theorem held_iff {t : St} (wf : WF t) {p : Nat} (hp : p < t.n) : t.held p = true ↔ ∃ k, t.beg k = true ∧ k / 32 ≤ p ∧ p < k / 32 + ((t.size (k / 32)).toNat + 31) / 32 := by
  constructor
  · intro h
    obtain ⟨k, k1, k2, k3, k4, k5, k6⟩ := held_obj wf hp h
    have z := (wf.bg k k1).2.1
    refine ⟨k, k1, k2, ?_⟩
    by_cases c : t.size (k / 32) ≤ 16
    · have := k3 c; omega
    · have := k4 (by omega)
      have := wf.gm (k / 32) (by omega) (by omega)
      omega
  · rintro ⟨k, k1, k2, k3⟩
    obtain ⟨b1, b2, b3, b4⟩ := wf.bg k k1
    by_cases c : t.size (k / 32) ≤ 16
    · have e : p = k / 32 := by omega
      subst e
      have hb := wf.sm _ hp c
      unfold St.held
      rw [hb, any_iff]
      exact ⟨k, by simp; omega, by simp; omega, k1⟩
    · have m := wf.gm (k / 32) (by omega) (by omega)
      have := run_held wf k1 (by omega) (p - k / 32) (by omega)
      rw [show k / 32 + (p - k / 32) = p by omega] at this
      exact this

theorem WF.wordF {s : St} (h : WF s) (f : Nat → Int) : WF { s with word := f } := ⟨h.z0, h.z1, h.sm, h.gm, h.gb, h.gr, h.bg, h.un, h.uz⟩
/-- The objects: where each begins, and its size; the j-th is filled with j. -/
structure Held (s : St) (P : List (Nat × Nat)) : Prop where
  n : s.n = 48
  wf : WF s
  blk : ∀ p, s.blk p = false
  roots : s.roots = P.map fun q => adr q.1
  beg : ∀ k, s.beg k = true ↔ ∃ z, (k, z) ∈ P
  cnt : cntF s.beg 1536 = P.length
  size : ∀ k z, (k, z) ∈ P → s.size (k / 32) = z ∧ 1 ≤ z ∧ z ≤ 64
  word : ∀ j (hj : j < P.length) i, i < (P[j]).2 → s.word ((P[j]).1 + i) = j
  pre : ∃ u, u ≤ 2 * P.length ∧ ∀ p, p < 48 → (s.held p = true ↔ p < u)
  len : P.length ≤ 24
theorem Held.init (r : Nat) : Held (St.init 48 r) [] := by
  refine ⟨rfl, WF.init _ _, fun _ => rfl, rfl, fun k => ?_, cntF_zero fun _ _ => rfl, fun k z h => (by cases h), fun j hj => absurd hj (by simp), ⟨0, Nat.le_refl _, fun p _ => ?_⟩, by simp⟩
  · show false = true ↔ _
    simp
  · constructor
    · intro h
      have : (St.init 48 r).held p = false := any_false fun _ _ _ => rfl
      rw [this] at h; cases h
    · intro h; omega
theorem Held.at {s : St} {P : List (Nat × Nat)} (h : Held s P) {k z : Nat} (hk : (k, z) ∈ P) (i : Int) (i1 : 0 ≤ i) (i2 : i < 8 * (z : Int)) : s.at (adr k + i) = some k := by
  rw [at_iff h.wf]
  refine ⟨(h.beg k).2 ⟨z, hk⟩, ?_⟩
  unfold St.lies adr
  rw [(h.size k z hk).1]
  omega
theorem Held.reach {s : St} {P : List (Nat × Nat)} (h : Held s P) (k : Nat) : s.Reach k ↔ s.beg k = true := by
  refine ⟨fun hk => Reach.beg h.wf hk, fun hk => ?_⟩
  obtain ⟨z, hz⟩ := (h.beg k).1 hk
  have := h.at hz 0 (by omega) (by have := (h.size k z hz).2.1; omega)
  rw [Int.add_zero] at this
  exact .root (x := adr k) (by rw [h.roots]; exact List.mem_map.2 ⟨(k, z), hz, rfl⟩) this
theorem Held.named {s : St} {P : List (Nat × Nat)} (h : Held s P) (p : Nat) : ¬ s.Named p := by
  rintro ⟨x, hx, hin, ha, _⟩
  rcases hx with hx | ⟨j, i, hj, _, hi, rfl⟩
  · rw [h.roots] at hx
    obtain ⟨⟨k, z⟩, hm, rfl⟩ := List.mem_map.1 hx
    have := h.at hm 0 (by omega) (by have := (h.size k z hm).2.1; omega)
    rw [Int.add_zero] at this
    rw [this] at ha
    cases ha
  · obtain ⟨z, hz⟩ := (h.beg j).1 (Reach.beg h.wf hj)
    rw [(h.size j z hz).1] at hi
    obtain ⟨d, hd, e⟩ := List.getElem_of_mem hz
    have hw := h.word d hd i (by rw [e]; simpa using hi)
    rw [e] at hw
    rw [hw] at hin
    have := hin.1
    have := h.len
    omega
theorem Held.room {s : St} {P : List (Nat × Nat)} (h : Held s P) (hl : P.length < 24) {sz : Nat} {at' : Bool} (z1 : 1 ≤ sz) (z2 : sz ≤ 64) : ∃ k, s.place sz at' = some k := by
  cases hp : s.place sz at' with
  | some k => exact ⟨k, rfl⟩
  | none =>
    exfalso
    obtain ⟨u, hu, hh⟩ := h.pre
    obtain ⟨j, j1, j2⟩ := (place_none z1 hp).2 46 (by rw [h.n]; omega)
    unfold St.free at j2
    rw [h.blk] at j2
    have h3 : s.held (46 + j) = true := by simpa using j2
    have := (hh _ (by omega)).1 h3
    omega

/-- One more, filled with its number. -/
theorem Held.lay {s t : St} {P : List (Nat × Nat)} {k sz : Nat} {at' : Bool} (h : Held s P) (hl : P.length < 24) (z1 : 1 ≤ sz) (z2 : sz ≤ 64) (hp : s.place sz at' = some k) (l : LaidTo s k sz at' t) (f : Nat → Int) (hf : ∀ i, i < sz → f (k + i) = (P.length : Int)) (ho : ∀ q, ¬ (k ≤ q ∧ q < k + sz) → f q = s.word q) : Held { t with word := f, roots := s.roots ++ [adr k] } (P ++ [(k, sz)]) := by
  have hbeg : ∀ j, t.beg j = true ↔ j = k ∨ s.beg j = true := fun j => by
    rw [l.beg]
    unfold upd
    by_cases e : j = k
    · simp [e]
    · simp [e]
  have hlt := l.lt
  rw [h.n] at hlt
  have hsize : ∀ j z, (j, z) ∈ P → t.size (j / 32) = z ∧ 1 ≤ z ∧ z ≤ 64 := fun j z hj => by
    have a := l.old j ((h.beg j).2 ⟨z, hj⟩)
    have b := h.size j z hj
    exact ⟨a.1.trans b.1, b.2⟩
  refine ⟨l.n.trans h.n, (l.wf.roots (s.roots ++ [adr k])).wordF f, fun p => by show t.blk p = false; rw [l.blk]; exact h.blk p, by show s.roots ++ [adr k] = _; rw [h.roots, List.map_append]; rfl, fun j => ?_, ?_, fun j z hj => ?_, fun j hj i hi => ?_, ?_, by simp; omega⟩
  · show t.beg j = true ↔ _
    rw [hbeg, h.beg j]
    constructor
    · rintro (rfl | ⟨z, hz⟩)
      · exact ⟨sz, by simp⟩
      · exact ⟨z, by simp [hz]⟩
    · rintro ⟨z, hz⟩
      simp only [List.mem_append, List.mem_singleton, Prod.mk.injEq] at hz
      rcases hz with hz | ⟨rfl, _⟩
      · exact .inr ⟨z, hz⟩
      · exact .inl rfl
  · show cntF t.beg 1536 = _
    rw [l.beg, cntF_upd (by omega) l.was, h.cnt]
    simp
  · show t.size (j / 32) = z ∧ _
    simp only [List.mem_append, List.mem_singleton, Prod.mk.injEq] at hj
    rcases hj with hj | ⟨rfl, rfl⟩
    · exact hsize j z hj
    · exact ⟨(l.sizeNew z1).1, z1, z2⟩
  · show f _ = _
    by_cases e : j < P.length
    · simp only [List.getElem_append_left e] at hi ⊢
      have hm : ((P[j]).1, (P[j]).2) ∈ P := List.getElem_mem e
      have ha := h.at hm (8 * (i : Int)) (by omega) (by omega)
      have := laid_apart h.wf l z1 ha
      unfold adr at this
      rw [ho _ (by omega)]
      exact h.word j e i hi
    · have e2 : j = P.length := by simp at hj; omega
      subst e2
      simp only [List.getElem_append_right (Nat.le_refl _), Nat.sub_self, List.getElem_singleton] at hi ⊢
      exact hf i hi
  · obtain ⟨u, hu, hh⟩ := h.pre
    have hcov : ∀ p, p < 48 → (t.held p = true ↔ s.held p = true ∨ (k / 32 ≤ p ∧ p < k / 32 + (sz + 31) / 32)) := by
      intro p hp48
      rw [held_iff l.wf (by rw [l.n, h.n]; exact hp48), held_iff h.wf (by rw [h.n]; exact hp48)]
      constructor
      · rintro ⟨j, j1, j2, j3⟩
        rcases (hbeg j).1 j1 with rfl | j1
        · rw [(l.sizeNew z1).1] at j3
          exact .inr ⟨j2, by simpa using j3⟩
        · rw [(l.old j j1).1] at j3
          exact .inl ⟨j, j1, j2, j3⟩
      · rintro (⟨j, j1, j2, j3⟩ | ⟨j2, j3⟩)
        · exact ⟨j, (hbeg j).2 (.inr j1), j2, by rw [(l.old j j1).1]; exact j3⟩
        · exact ⟨k, (hbeg k).2 (.inl rfl), j2, by rw [(l.sizeNew z1).1]; simpa using j3⟩
    have hheld : ∀ p, St.held { t with word := f, roots := s.roots ++ [adr k] } p = t.held p := fun _ => rfl
    rcases place_some z1 hp with ⟨p0, b⟩ | ⟨_, hsh⟩
    · obtain ⟨i, e1, e2, _, _⟩ := b.pos
      have c16 := b.sz16
      have hp0 := (hh p0 (by have := b.lt; rw [h.n] at this; exact this)).1 b.held
      refine ⟨u, by simp; omega, fun p hp48 => ?_⟩
      rw [hheld, hcov p hp48, hh p hp48]
      constructor
      · rintro (x | x)
        · exact x
        · omega
      · exact .inl
    · obtain ⟨F, a, lo⟩ := place_low z1 hp hsh
      have ale := a.le
      rw [h.n] at ale
      have ek : k / 32 = F := by have := a.pos; omega
      have eF : F = u := by
        rcases Nat.lt_trichotomy F u with x | x | x
        · exfalso
          have := free_held (a.free 0 (by omega))
          rw [Nat.add_zero, (hh F (by omega)).2 x] at this
          cases this
        · exact x
        · exfalso
          obtain ⟨j, j1, j2⟩ := lo _ x
          unfold St.free at j2
          rw [h.blk] at j2
          have h3 : s.held (u + j) = true := by simpa using j2
          have := (hh _ (by omega)).1 h3
          omega
      refine ⟨u + (sz + 31) / 32, by simp; omega, fun p hp48 => ?_⟩
      rw [hheld, hcov p hp48, hh p hp48]
      omega
/-- A collection leaves all of it. -/
theorem Held.coll {s : St} {P : List (Nat × Nat)} (h : Held s P) {stays black : Nat → Bool} {ag : Nat} (m : Marked s stays black) (hw : WF (s.collected stays black ag)) : Held (s.collected stays black ag) P := by
  have e1 : stays = s.beg := by
    funext k
    have := (m.stay k).trans (h.reach k)
    cases h1 : stays k <;> cases h2 : s.beg k <;> simp_all
  have e2 : ∀ p, black p = false := fun p => by
    cases h1 : black p with
    | false => rfl
    | true => exact absurd ((m.blk p).1 h1) (h.named p)
  subst e1
  obtain ⟨u, hu, hh⟩ := h.pre
  exact ⟨h.n, hw, e2, h.roots, h.beg, h.cnt, h.size, h.word, ⟨u, hu, hh⟩, h.len⟩
end Go.Proofs.YtgegkcjllliifabDoor
