/-
  The heap's tables seen as the model's objects: finding, what lies on a page.
-/
import Derived.Test.YtgegkcjllliifabDoorIface
import Derived.Test.YtgegkcjllliifabDoorHWalk
import Derived.Test.YtgegkcjllliifabDoorSHeld
import Derived.Test.YtgegkcjllliifabDoorHLoad
namespace Go.Proofs.YtgegkcjllliifabDoor
open Go.RowKit

def obOf (s : St) (k : Nat) : Ob := ⟨adr k, s.atom (k / 32), (List.range (s.size (k / 32)).toNat).map fun i => s.word (k + i)⟩
def St.T (s : St) : List Nat := trues s.beg (s.n * 32)
def absM (s : St) (kept : Nat) : Mo := ⟨s.n, s.room, s.trig, s.T.map (obOf s), s.roots, (List.range s.n).map s.blk, s.since, s.colls, kept⟩

theorem obOf_len (s : St) (k : Nat) : (obOf s k).ws.length = (s.size (k / 32)).toNat := by simp [obOf]
theorem obOf_has {s : St} (h : WF s) {k : Nat} (hk : s.beg k = true) (a : Int) : (obOf s k).has a = true ↔ s.lies k a := by
  have := (h.bg k hk).2.1
  unfold Ob.has St.lies
  rw [obOf_len]
  rw [Bool.and_eq_true, decide_eq_true_iff, decide_eq_true_iff]
  simp only [obOf, adr]
  omega

theorem trues_filter (f : Nat → Bool) (n : Nat) : trues f n = (List.range n).filter f := by
  induction n with
  | zero => rfl
  | succ n ih =>
    rw [trues, ih, List.range_succ, List.filter_append]
    congr 1
    cases c : f n <;> simp [c]
theorem T_beg {s : St} {k : Nat} (h : k ∈ s.T) : s.beg k = true ∧ k < s.n * 32 := by
  have := (trues_mem _ _ _).1 h
  exact ⟨this.2, this.1⟩
theorem T_mem {s : St} (h : WF s) {k : Nat} (hk : s.beg k = true) : k ∈ s.T := (trues_mem _ _ _).2 ⟨(h.bg k hk).1, hk⟩
theorem T_nodup (s : St) : s.T.Nodup := by
  unfold St.T
  rw [trues_filter]
  exact List.nodup_range.sublist List.filter_sublist

theorem findFrom_neg (a : Int) : ∀ (l : List Ob) (b : Nat), findFrom a b l = -1 ↔ ∀ o, o ∈ l → o.has a = false
  | [], b => by simp [findFrom]
  | o :: r, b => by
    unfold findFrom
    cases ho : o.has a with
    | true => simp [ho]
    | false => simp [ho, findFrom_neg a r (b + 1)]
theorem findFrom_pos (a : Int) : ∀ (l : List Ob) (b i : Nat), findFrom a b l = (i : Int) → b ≤ i ∧ ∃ o, l[i - b]? = some o ∧ o.has a = true
  | [], b, i => by intro h; have : (-1 : Int) = i := h; omega
  | o :: r, b, i => by
    unfold findFrom
    cases ho : o.has a with
    | true =>
      intro h
      have e : b = i := by have : (b : Int) = i := by simpa using h
                           omega
      subst e
      exact ⟨Nat.le_refl _, o, by simp, ho⟩
    | false =>
      intro h
      obtain ⟨h1, q, h2, h3⟩ := findFrom_pos a r (b + 1) i (by simpa using h)
      refine ⟨by omega, q, ?_, h3⟩
      rw [show i - b = (i - (b + 1)) + 1 by omega, List.getElem?_cons_succ]
      exact h2
theorem findFrom_ge (a : Int) : ∀ (l : List Ob) (b : Nat), findFrom a b l = -1 ∨ ∃ i : Nat, findFrom a b l = i
  | [], b => .inl rfl
  | o :: r, b => by
    unfold findFrom
    cases ho : o.has a with
    | true => right; exact ⟨b, by simp⟩
    | false => simpa using findFrom_ge a r (b + 1)

theorem find_none {s : St} (h : WF s) (kept : Nat) (a : Int) : (absM s kept).find a = -1 ↔ s.at a = none := by
  unfold Mo.find
  rw [findFrom_neg, at_none h]
  constructor
  · intro H k hk hl
    have := H (obOf s k) (List.mem_map_of_mem (T_mem h hk))
    rw [(obOf_has h hk a).2 hl] at this
    cases this
  · intro H o ho
    obtain ⟨k, hk, rfl⟩ := List.mem_map.1 ho
    have hb := (T_beg hk).1
    cases c : (obOf s k).has a with
    | false => rfl
    | true => exact absurd ((obOf_has h hb a).1 c) (H k hb)
theorem find_at {s : St} (h : WF s) (kept : Nat) {a : Int} {i : Nat} (hf : (absM s kept).find a = i) : ∃ k, s.T[i]? = some k ∧ s.at a = some k := by
  obtain ⟨_, o, h1, h2⟩ := findFrom_pos a _ 0 i hf
  simp only [absM, Nat.sub_zero, List.getElem?_map, Option.map_eq_some_iff] at h1
  obtain ⟨k, h3, rfl⟩ := h1
  have hb := (T_beg (List.mem_of_getElem? h3)).1
  exact ⟨k, h3, (at_iff h).2 ⟨hb, (obOf_has h hb a).1 h2⟩⟩
theorem fnd_cases {s : St} (h : WF s) (kept : Nat) (a : Int) : ((absM s kept).find a = -1 ∧ s.at a = none) ∨ ∃ i k : Nat, (absM s kept).find a = i ∧ s.T[i]? = some k ∧ s.at a = some k := by
  rcases findFrom_ge a (absM s kept).objs 0 with e | ⟨i, e⟩
  · exact .inl ⟨e, (find_none h kept a).1 e⟩
  · obtain ⟨k, h1, h2⟩ := find_at h kept e
    exact .inr ⟨i, k, e, h1, h2⟩
theorem find_of {s : St} (h : WF s) (kept : Nat) {a : Int} {i k : Nat} (hi : s.T[i]? = some k) (ha : s.at a = some k) : (absM s kept).find a = i := by
  rcases fnd_cases h kept a with ⟨_, e⟩ | ⟨j, q, e, h1, h2⟩
  · rw [e] at ha; cases ha
  · rw [ha] at h2
    cases h2
    have hj := (List.getElem?_eq_some_iff.1 h1).1
    have : j = i := List.getElem?_inj hj (T_nodup s) |>.1 (h1.trans hi.symm)
    rw [e, this]
theorem find_lt {s : St} (h : WF s) (kept : Nat) (a : Int) : (absM s kept).find a < 0 ↔ s.at a = none := by
  rcases fnd_cases h kept a with ⟨e, e'⟩ | ⟨j, q, e, h1, h2⟩
  · rw [e, e']; simp
  · rw [e, h2]; simp

theorem obj_at (s : St) (kept : Nat) {i k : Nat} (hi : s.T[i]? = some k) : ∃ h : i < (absM s kept).objs.length, (absM s kept).objs[i] = obOf s k := by
  obtain ⟨h1, h2⟩ := List.getElem?_eq_some_iff.1 hi
  exact ⟨by simpa [absM] using h1, by simp [absM, h2]⟩
theorem T_len (s : St) : s.T.length ≤ s.n * 32 := by unfold St.T; rw [trues_length]; exact cntF_le _ _
theorem at_adr {s : St} (h : WF s) {k : Nat} (hk : s.beg k = true) (j : Nat) (hj : j < (s.size (k / 32)).toNat) : s.at (adr k + 8 * (j : Int)) = some k := by
  refine (at_iff h).2 ⟨hk, ?_⟩
  unfold St.lies adr
  omega

theorem absM_geo {w : World} {L : HL} {s : St} (R : Rep w L s) (h : WF s) (kept : Nat) : Geo (absM s kept) := by
  have n2 := R.n2
  have tl := T_len s
  have key : ∀ i (hi : i < (absM s kept).objs.length), ∃ k, s.T[i]? = some k ∧ (absM s kept).objs[i] = obOf s k ∧ s.beg k = true ∧ k < s.n * 32 := by
    intro i hi
    have hi' : i < s.T.length := by simpa [absM] using hi
    exact ⟨s.T[i], List.getElem?_eq_getElem hi', by simp [absM], (T_beg (List.getElem_mem hi')).1, (T_beg (List.getElem_mem hi')).2⟩
  refine ⟨R.n1, n2, by simp only [absM, List.length_map]; omega, fun i hi => ?_, R.rt, R.rm, R.tg, fun i hi => ?_, fun i j hi hj => ?_⟩
  · obtain ⟨k, _, e, hb, hl⟩ := key i hi
    rw [e, obOf_len]
    have := h.z1 (k / 32) (by omega)
    simp only [obOf, adr]
    omega
  · obtain ⟨k, _, e, hb, hl⟩ := key i hi
    rw [e]
    simp only [obOf, adr]
    omega
  · obtain ⟨k, h1, e, hb, hl⟩ := key i hi
    rw [e, obOf_len] at hj
    rw [e]
    exact find_of h kept h1 (at_adr h hb j hj)

/-! Pages. -/
theorem obOf_on {s : St} (h : WF s) {k : Nat} (hk : s.beg k = true) (p : Nat) : (obOf s k).on p = true ↔ k / 32 ≤ p ∧ p < k / 32 + ((s.size (k / 32)).toNat + 31) / 32 := by
  obtain ⟨b1, b2, b3, b4⟩ := h.bg k hk
  have g := h.gm (k / 32) (by omega)
  unfold Ob.on
  rw [obOf_len]
  rw [Bool.and_eq_true, decide_eq_true_iff, decide_eq_true_iff]
  simp only [obOf, adr]
  by_cases c : s.size (k / 32) ≤ 16
  · have := b3 c; omega
  · have := b4 (by omega); have := g (by omega); omega
/-- What lies on page p has its page's size and kind. -/
theorem on_page {s : St} (h : WF s) {k p : Nat} (hk : s.beg k = true) (h1 : k / 32 ≤ p) (h2 : p < k / 32 + ((s.size (k / 32)).toNat + 31) / 32) : s.size p = s.size (k / 32) ∧ s.atom p = s.atom (k / 32) := by
  obtain ⟨b1, b2, b3, b4⟩ := h.bg k hk
  have kp : k / 32 < s.n := by omega
  by_cases c : s.size (k / 32) ≤ 16
  · obtain rfl : p = k / 32 := by omega
    exact ⟨rfl, rfl⟩
  · obtain ⟨q1, q2⟩ := b4 (by omega)
    have gm := h.gm _ kp (by omega)
    obtain ⟨g1, g2, g3, g4⟩ := h.gr _ kp (by omega) (p - k / 32) (by omega)
    rw [q1, show k / 32 - (0 : Int).toNat + (p - k / 32) = p by simp; omega] at g2 g3
    exact ⟨g2, g3⟩

theorem onFrom_mono (p : Nat) : ∀ (l : List Ob) (n z : Nat) (a : Bool), n ≤ (onFrom p l n z a).1
  | [], n, z, a => Nat.le_refl _
  | o :: r, n, z, a => by
    unfold onFrom
    split
    · have := onFrom_mono p r (n + 1) o.ws.length o.atomic; omega
    · exact onFrom_mono p r n z a
theorem onFrom_spec (p : Nat) (z0 : Nat) (a0 : Bool) : ∀ (l : List Ob) (n z : Nat) (a : Bool), (∀ o, o ∈ l → o.on p = true → o.ws.length = z0 ∧ o.atomic = a0) →
    ((∀ o, o ∈ l → o.on p = false) ∧ onFrom p l n z a = (n, z, a)) ∨ ((∃ o, o ∈ l ∧ o.on p = true) ∧ n < (onFrom p l n z a).1 ∧ (onFrom p l n z a).2.1 = z0 ∧ (onFrom p l n z a).2.2 = a0)
  | [], n, z, a, _ => .inl ⟨fun o ho => absurd ho (by simp), rfl⟩
  | o :: r, n, z, a, H => by
    have Hr : ∀ q, q ∈ r → q.on p = true → q.ws.length = z0 ∧ q.atomic = a0 := fun q hq => H q (List.mem_cons_of_mem _ hq)
    unfold onFrom
    cases ho : o.on p with
    | true =>
      right
      obtain ⟨e1, e2⟩ := H o List.mem_cons_self ho
      refine ⟨⟨o, List.mem_cons_self, ho⟩, ?_⟩
      simp only [if_true]
      rcases onFrom_spec p z0 a0 r (n + 1) o.ws.length o.atomic Hr with ⟨_, e⟩ | ⟨_, k1, k2, k3⟩
      · rw [e]; exact ⟨by simp, e1, e2⟩
      · exact ⟨by omega, k2, k3⟩
    | false =>
      simp only [Bool.false_eq_true, if_false]
      rcases onFrom_spec p z0 a0 r n z a Hr with ⟨k0, e⟩ | ⟨⟨q, hq, hq'⟩, k1, k2, k3⟩
      · left
        refine ⟨fun q hq => ?_, e⟩
        rcases List.mem_cons.1 hq with rfl | hq
        · exact ho
        · exact k0 q hq
      · exact .inr ⟨⟨q, List.mem_cons_of_mem _ hq, hq'⟩, k1, k2, k3⟩
theorem on_cases {s : St} (h : WF s) (kept : Nat) {p : Nat} (hp : p < s.n) : (s.held p = false ∧ (absM s kept).on p = (0, 0, false)) ∨ (s.held p = true ∧ 0 < ((absM s kept).on p).1 ∧ ((absM s kept).on p).2.1 = (s.size p).toNat ∧ ((absM s kept).on p).2.2 = s.atom p) := by
  have H : ∀ o, o ∈ (absM s kept).objs → o.on p = true → o.ws.length = (s.size p).toNat ∧ o.atomic = s.atom p := by
    intro o ho hon
    obtain ⟨k, hk, rfl⟩ := List.mem_map.1 ho
    have hb := (T_beg hk).1
    obtain ⟨h1, h2⟩ := (obOf_on h hb p).1 hon
    obtain ⟨e1, e2⟩ := on_page h hb h1 h2
    rw [obOf_len, e1, e2]
    exact ⟨rfl, rfl⟩
  rcases onFrom_spec p _ _ _ 0 0 false H with ⟨k0, e⟩ | ⟨⟨o, ho, hon⟩, k1, k2, k3⟩
  · left
    refine ⟨?_, e⟩
    cases hc : s.held p with
    | false => rfl
    | true =>
      obtain ⟨k, hb, h1, h2⟩ := (held_iff h hp).1 hc
      have := k0 (obOf s k) (List.mem_map_of_mem (T_mem h hb))
      rw [(obOf_on h hb p).2 ⟨h1, h2⟩] at this
      cases this
  · right
    obtain ⟨k, hk, rfl⟩ := List.mem_map.1 ho
    have hb := (T_beg hk).1
    exact ⟨(held_iff h hp).2 ⟨k, hb, (obOf_on h hb p).1 hon⟩, k1, k2, k3⟩
theorem black_at (s : St) (kept : Nat) {p : Nat} (hp : p < s.n) : (absM s kept).black.getD p false = s.blk p := by simp [absM, hp]
theorem bare_free {s : St} (h : WF s) (kept : Nat) {p : Nat} (hp : p < s.n) (at' : Bool) : (absM s kept).bare p at' = s.free p at' := by
  unfold Mo.bare St.free
  rw [black_at s kept hp]
  rcases on_cases h kept hp with ⟨e1, e2⟩ | ⟨e1, e2, _⟩
  · rw [e1, e2]; simp
  · rw [e1]; simp; omega
theorem great_iff {s : St} (h : WF s) (kept : Nat) (p : Nat) (at' : Bool) : ∀ k, (absM s kept).great p at' k = true ↔ ∀ j, j < k → p + j < s.n ∧ s.free (p + j) at' = true
  | 0 => by simp [Mo.great]
  | k + 1 => by
    unfold Mo.great
    rw [Bool.and_eq_true, great_iff h kept p at' k, Bool.and_eq_true, decide_eq_true_eq]
    constructor
    · rintro ⟨h1, h2, h3⟩ j hj
      by_cases c : j = k
      · subst c
        rw [bare_free h kept h2] at h3
        exact ⟨h2, h3⟩
      · exact h1 j (by omega)
    · intro H
      obtain ⟨h1, h2⟩ := H k (by omega)
      exact ⟨fun j hj => H j (by omega), h1, by rw [bare_free h kept h1]; exact h2⟩
end Go.Proofs.YtgegkcjllliifabDoor
