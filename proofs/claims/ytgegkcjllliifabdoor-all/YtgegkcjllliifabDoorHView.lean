/-
  The heap seen as objects: what lies where; what calls turn of it.
-/
import Derived.Test.YtgegkcjllliifabDoorHColl
namespace Go.Proofs.YtgegkcjllliifabDoor
open Go.RowKit

/-- The object of first word k lies at x. -/
def St.lies (s : St) (k : Nat) (x : Int) : Prop := 1048576 + 8 * (k : Int) ≤ x ∧ x < 1048576 + 8 * (k : Int) + 8 * s.size (k / 32)

theorem small_mod (a b z : Nat) (h1 : a % z = 0) (h2 : b < z) : (a + b) % z = b := by
  rw [Nat.add_mod, h1, Nat.zero_add, Nat.mod_mod, Nat.mod_eq_of_lt h2]

theorem obj_iff {s : St} (h : WF s) {q k : Nat} (hq : q < s.n * 32) : s.obj q = some k ↔ s.beg k = true ∧ k ≤ q ∧ (q : Int) < k + s.size (k / 32) := by
  have hp : q / 32 < s.n := by omega
  have z0 := h.z0 _ hp
  have z1 := h.z1 _ hp
  constructor
  · intro ho
    unfold St.obj at ho
    split at ho
    · cases ho
    · rename_i hz
      split at ho
      · rename_i hb
        cases ho
        refine ⟨hb, ?_⟩
        by_cases c : s.size (q / 32) ≤ 16
        · have e : firstOf s q = q - q % 32 % (s.size (q / 32)).toNat := if_pos c
          have hlt : q % 32 % (s.size (q / 32)).toNat < (s.size (q / 32)).toNat := Nat.mod_lt _ (by omega)
          have hle : q % 32 % (s.size (q / 32)).toNat ≤ q % 32 := Nat.mod_le _ _
          have ep : firstOf s q / 32 = q / 32 := by omega
          rw [ep]
          omega
        · have e : firstOf s q = (q / 32 - (s.back (q / 32)).toNat) * 32 := if_neg c
          obtain ⟨b1, b2, b3⟩ := h.gb _ hp (by omega)
          obtain ⟨g1, g2, g3, g4⟩ := h.gr _ hp (by omega) 0 (by omega)
          have m := h.gm _ hp (by omega)
          have ep : firstOf s q / 32 = q / 32 - (s.back (q / 32)).toNat := by omega
          rw [ep, show q / 32 - (s.back (q / 32)).toNat = q / 32 - (s.back (q / 32)).toNat + 0 from rfl, g2]
          omega
      · cases ho
  · rintro ⟨hb, h1, h2⟩
    obtain ⟨k1, k2, k3, k4⟩ := h.bg k hb
    have kp : k / 32 < s.n := by omega
    have kz := h.z1 _ kp
    unfold St.obj
    by_cases c : s.size (k / 32) ≤ 16
    · obtain ⟨m1, m2⟩ := k3 c
      have ep : q / 32 = k / 32 := by omega
      have em : q % 32 % (s.size (k / 32)).toNat = q - k := by
        have : q % 32 = k % 32 + (q - k) := by omega
        rw [this]
        exact small_mod _ _ _ m1 (by omega)
      have ef : firstOf s q = k := by
        unfold firstOf
        rw [ep, if_pos c, em]
        omega
      rw [if_neg (by rw [ep]; omega), ef, if_pos hb]
    · obtain ⟨m1, m2⟩ := k4 (by omega)
      have gm := h.gm _ kp (by omega)
      obtain ⟨g1, g2, g3, g4⟩ := h.gr _ kp (by omega) (q / 32 - k / 32) (by omega)
      rw [m1, show k / 32 - (0 : Int).toNat + (q / 32 - k / 32) = q / 32 by simp; omega] at g2 g4
      have ef : firstOf s q = k := by
        unfold firstOf
        rw [g2, if_neg (by omega), g4]
        omega
      rw [if_neg (by rw [g2]; omega), ef, if_pos hb]

theorem at_iff {s : St} (h : WF s) {x : Int} {k : Nat} : s.at x = some k ↔ s.beg k = true ∧ s.lies k x := by
  unfold St.at St.lies
  constructor
  · intro ha
    split at ha
    · rename_i hin
      obtain ⟨h1, h2, h3⟩ := (obj_iff h (q := ((x - 1048576) / 8).toNat) (by omega)).1 ha
      exact ⟨h1, by omega, by omega⟩
    · cases ha
  · rintro ⟨h1, h2, h3⟩
    obtain ⟨b1, b2, b3, b4⟩ := h.bg k h1
    have kp : k / 32 < s.n := by omega
    have hle : (k : Int) + s.size (k / 32) ≤ (s.n : Int) * 32 := by
      by_cases c : s.size (k / 32) ≤ 16
      · have := b3 c; omega
      · have m1 := (b4 (by omega)).1
        have m2 := (b4 (by omega)).2
        have gm := h.gm _ kp (by omega)
        have g := (h.gr _ kp (by omega) ((s.size (k / 32) / 32).toNat - 1) (by omega)).1
        rw [m1] at g
        simp at g
        omega
    rw [if_pos (by omega)]
    exact (obj_iff h (by omega)).2 ⟨h1, by omega, by omega⟩
theorem at_none {s : St} (h : WF s) {x : Int} : s.at x = none ↔ ∀ k, s.beg k = true → ¬ s.lies k x := by
  constructor
  · intro ha k hk hl
    have := (at_iff h).2 ⟨hk, hl⟩
    rw [ha] at this
    cases this
  · intro hn
    cases ha : s.at x with
    | none => rfl
    | some k =>
      have := (at_iff h).1 ha
      exact absurd this.2 (hn k this.1)

/-- An object's words lie within the heap. -/
theorem WF.fit {s : St} (h : WF s) {k : Nat} (hk : s.beg k = true) : s.Fit k := by
  obtain ⟨b1, b2, b3, b4⟩ := h.bg k hk
  have kp : k / 32 < s.n := by omega
  refine ⟨kp, by omega, h.z1 _ kp, ?_⟩
  by_cases c : s.size (k / 32) ≤ 16
  · have := b3 c; omega
  · have m1 := (b4 (by omega)).1
    have m2 := (b4 (by omega)).2
    have gm := h.gm _ kp (by omega)
    have g := (h.gr _ kp (by omega) ((s.size (k / 32) / 32).toNat - 1) (by omega)).1
    rw [m1] at g
    simp at g
    omega
theorem Reach.beg {s : St} (h : WF s) {k : Nat} (hk : s.Reach k) : s.beg k = true := by
  cases hk with
  | root _ h2 => exact ((at_iff h).1 h2).1
  | word _ _ _ h4 => exact ((at_iff h).1 h4).1

/-- A collection keeps what the tables keep to. -/
theorem WF.collected {s : St} (h : WF s) {stays black : Nat → Bool} (hs : ∀ k, stays k = true → s.beg k = true) (ag : Nat) : WF (s.collected stays black ag) := by
  refine ⟨h.z0, h.z1, h.sm, h.gm, h.gb, h.gr, fun k hk => h.bg k (hs k hk), fun p hp x u => ?_, fun p hp u => ?_⟩
  · have hp' : p < s.n := hp
    have : (if p < s.n then s.size p != 0 else s.uns p) = false := u
    rw [if_pos hp'] at this
    have x' : 0 < s.size p := x
    simp at this
    omega
  · have hp' : p < s.n := hp
    have u' : (if p < s.n then s.size p != 0 else s.uns p) = true := u
    rw [if_pos hp'] at u'
    have z := h.z0 p hp'
    show 0 < s.size p
    simp at u'
    omega

/-- Collect, in one piece. -/
theorem collect_wf (L : HL) (s : St) (w : World) (h : Rep w L s) (wf : WF s) (hc : s.colls ≤ 4611686018427387904) :
    Calls Tryd.prog 28 #[.pointer (some ⟨L.h, 0, none⟩)] w fun e w' => e = .returned (.tuple #[]) ∧ ∃ stays black ag, Marked s stays black ∧ ag ≤ cntF stays (s.n * 32) ∧ (0 < ag → s.room + 1 ≤ cntF stays (s.n * 32)) ∧ WF (s.collected stays black ag) ∧ HSt w L (s.collected stays black ag) w' := by
  refine (collect_any' L s w h wf.ok (fun j hj => wf.fit (Reach.beg wf hj)) hc).mono ?_
  rintro e w' ⟨he, m, ag, h1, h2, h3, h4⟩
  exact ⟨he, m.stays, m.black, ag, h1, h2, h3, wf.collected (fun k hk => Reach.beg wf ((h1.stay k).1 hk)) ag, h4⟩

/-- What sweeping leaves. -/
structure SweptTo (s t : St) : Prop where
  wf : WF t
  n : t.n = s.n
  beg : t.beg = s.beg
  word : t.word = s.word
  blk : t.blk = s.blk
  roots : t.roots = s.roots
  room : t.room = s.room
  colls : t.colls = s.colls
  again : t.again = s.again
  trig : t.trig = s.trig
  since : t.since = s.since
  page : ∀ p, p < s.n → (t.size p = s.size p ∧ t.atom p = s.atom p ∧ t.back p = s.back p) ∨ (t.size p = 0 ∧ s.held p = false)
  held : ∀ p, p < s.n → t.held p = s.held p
theorem SweptTo.refl {s : St} (h : WF s) : SweptTo s s := ⟨h, rfl, rfl, rfl, rfl, rfl, rfl, rfl, rfl, rfl, rfl, fun _ _ => .inl ⟨rfl, rfl, rfl⟩, fun _ _ => rfl⟩
theorem SweptTo.step {s t u : St} (h : SweptTo s t) (k : SweptTo t u) : SweptTo s u := by
  refine ⟨k.wf, k.n.trans h.n, k.beg.trans h.beg, k.word.trans h.word, k.blk.trans h.blk, k.roots.trans h.roots, k.room.trans h.room, k.colls.trans h.colls, k.again.trans h.again, k.trig.trans h.trig, k.since.trans h.since, fun p hp => ?_, fun p hp => (k.held p (by rw [h.n]; exact hp)).trans (h.held p hp)⟩
  have hp' : p < t.n := by rw [h.n]; exact hp
  rcases k.page p hp' with ⟨a, b, c⟩ | ⟨a, b⟩
  · rcases h.page p hp with ⟨a', b', c'⟩ | ⟨a', b'⟩
    · exact .inl ⟨a.trans a', b.trans b', c.trans c'⟩
    · exact .inr ⟨a.trans a', b'⟩
  · exact .inr ⟨a, (h.held p hp).symm.trans b⟩
theorem SweptTo.tidied {s : St} (h : WF s) {p : Nat} (hp : p < s.n) : SweptTo s (s.tidied p) := by
  refine ⟨h.tidied hp, rfl, rfl, rfl, rfl, rfl, rfl, rfl, rfl, rfl, rfl, fun q _ => ?_, fun q _ => tid_held h hp⟩
  by_cases c : s.first p ≤ q ∧ q < s.first p + s.count p
  · cases he : s.any (s.first p) with
    | true => have := tid_keep he c; exact .inl ⟨this.1, this.2.1, this.2.2.1⟩
    | false =>
      refine .inr ⟨(tid_in he c).1, ?_⟩
      have hf := (h.inrun hp c.1 c.2).2.2.2.1
      unfold St.held
      unfold St.first at hf he
      rw [hf]
      exact he
  · have := tid_out c; exact .inl ⟨this.1, this.2.1, this.2.2.1⟩
theorem swp_to : ∀ (m : Nat) (s : St) (l : Int), m ≤ s.n → WF s → SweptTo s (swp m s l)
  | 0, s, l, _, h => SweptTo.refl h
  | m + 1, s, l, hm, h => by
    unfold swp
    split
    · exact SweptTo.refl h
    · split
      · have hp : s.n - (m + 1) < s.n := by omega
        exact (SweptTo.tidied h hp).step (swp_to m (s.tidied (s.n - (m + 1))) (l - 1) (show m ≤ s.n by omega) (h.tidied hp))
      · exact swp_to m s l (by omega) h
theorem swept_to {s : St} (h : WF s) (l : Int) : SweptTo s (s.swept l) := swp_to s.n s l (Nat.le_refl _) h

/-- An object's page is as it was. -/
theorem SweptTo.size {s t : St} (h : SweptTo s t) (wf : WF s) {k : Nat} (hk : s.beg k = true) : t.size (k / 32) = s.size (k / 32) ∧ t.atom (k / 32) = s.atom (k / 32) := by
  obtain ⟨b1, b2, b3, b4⟩ := wf.bg k hk
  rcases h.page (k / 32) (by omega) with ⟨a, b, _⟩ | ⟨a, b⟩
  · exact ⟨a, b⟩
  · have hk' : t.beg k = true := by rw [h.beg]; exact hk
    have := (h.wf.bg k hk').2.1
    omega
theorem SweptTo.at {s t : St} (h : SweptTo s t) (wf : WF s) (x : Int) : t.at x = s.at x := by
  cases hx : s.at x with
  | none =>
    rw [at_none h.wf]
    intro k hk hl
    rw [h.beg] at hk
    refine (at_none wf).1 hx k hk ?_
    unfold St.lies at hl ⊢
    rw [(h.size wf hk).1] at hl
    exact hl
  | some k =>
    rw [at_iff h.wf, h.beg]
    obtain ⟨h1, h2⟩ := (at_iff wf).1 hx
    refine ⟨h1, ?_⟩
    unfold St.lies at h2 ⊢
    rw [(h.size wf h1).1]
    exact h2
end Go.Proofs.YtgegkcjllliifabDoor
