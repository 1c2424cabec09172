/-
  Trees of objects of two words: all that has been laid hangs on what is held.
-/
import Derived.Test.YtgegkcjllliifabDoorSFill
namespace Go.Proofs.YtgegkcjllliifabDoor
open Go.RowKit

/-- k hangs on j. -/
inductive Under (s : St) : Nat → Nat → Prop
  | here (j : Nat) : Under s j j
  | down {j j' k i : Nat} : s.beg j = true → i < 2 → s.at (s.word (j + i)) = some j' → Under s j' k → Under s j k

/-- m objects of two words, none of them atomic; each hangs on one of R. -/
structure Grove (s : St) (m : Nat) (R : List Nat) : Prop where
  n : s.n = 48
  wf : WF s
  blk : ∀ p, s.blk p = false
  size : ∀ k, s.beg k = true → s.size (k / 32) = 2 ∧ s.atom (k / 32) = false
  cnt : cntF s.beg 1536 = m
  ro : ∀ k, k ∈ R → s.beg k = true
  un : ∀ k, s.beg k = true → ∃ j, j ∈ R ∧ Under s j k
theorem Grove.init (r : Nat) : Grove (St.init 48 r) 0 [] := by
  refine ⟨rfl, WF.init _ _, fun _ => rfl, fun k hk => absurd hk (by show ¬ (false = true); simp), cntF_zero fun _ _ => rfl, fun k hk => (by cases hk), fun k hk => absurd hk (by show ¬ (false = true); simp)⟩

/-- There is room as long as there are not too many. -/
theorem uniform_room {n sz : Nat} {s : St} (sn : s.n = n) (wf : WF s) (hz : 1 ≤ sz) (z16 : sz ≤ 16) (hs : ∀ k, s.beg k = true → s.size (k / 32) = sz ∧ s.atom (k / 32) = false) (hb : ∀ p, s.blk p = false) (hc : cntF s.beg (n * 32) < n * (32 / sz)) : ∃ k, s.place sz false = some k := by
  cases hp : s.place sz false with
  | some k => exact ⟨k, rfl⟩
  | none =>
    exfalso
    obtain ⟨p1, p2⟩ := place_none hz hp
    have hall : ∀ q j, q < n → j * sz + sz ≤ 32 → s.beg (q * 32 + j * sz) = true := by
      intro q j hq hj
      obtain ⟨i, i1, i2⟩ := p2 q (by rw [sn]; omega)
      obtain rfl : i = 0 := by omega
      have hheld : s.held q = true := by
        unfold St.free at i2
        rw [Nat.add_zero, hb q] at i2
        simpa using i2
      obtain ⟨k, k1, k2, k3, k4, k5, k6⟩ := held_obj wf (by rw [sn]; exact hq) hheld
      have hsz := hs k k1
      rw [hsz.1] at k5
      rw [hsz.2] at k6
      have hsh := p1 z16 q (by rw [sn]; exact hq)
      unfold St.share at hsh
      rw [if_pos ⟨k5, k6, hheld⟩] at hsh
      exact freeFrom_none hz hsh (by omega) j (by omega)
    have lo : n * (32 / sz) ≤ cntF s.beg (n * 32) := by
      refine cntF_pages n fun q hq => ?_
      have h1 := cntF_stride (f := s.beg) (m := q * 32) hz (32 / sz) fun j hj => hall q j hq (by
        have : (j + 1) * sz ≤ 32 / sz * sz := Nat.mul_le_mul_right _ (by omega)
        have := Nat.div_mul_le_self 32 sz
        rw [Nat.add_mul, Nat.one_mul] at *
        omega)
      have h2 := cntF_mono (f := s.beg) (a := q * 32 + 32 / sz * sz) (b := q * 32 + 32) (by have := Nat.div_mul_le_self 32 sz; omega)
      omega
    omega
theorem Grove.room {s : St} {m : Nat} {R : List Nat} (h : Grove s m R) (hm : m < 700) : ∃ k, s.place 2 false = some k :=
  uniform_room (n := 48) h.n h.wf (by omega) (by omega) h.size h.blk (by have := h.cnt; rw [show 48 * 32 = 1536 from rfl, this]; omega)
theorem Grove.at {s : St} {m : Nat} {R : List Nat} (h : Grove s m R) {k : Nat} (hk : s.beg k = true) (i : Int) (i1 : 0 ≤ i) (i2 : i < 16) : s.at (adr k + i) = some k := by
  rw [at_iff h.wf]
  refine ⟨hk, ?_⟩
  unfold St.lies adr
  rw [(h.size k hk).1]
  omega
/-- A new object apart from those that were there. -/
theorem laid_apart {s t : St} {k sz j : Nat} {at' : Bool} (wf : WF s) (l : LaidTo s k sz at' t) (z1 : 1 ≤ sz) {x : Int} (hj : s.at x = some j) : ¬ (1048576 + 8 * (k : Int) ≤ x ∧ x < 1048576 + 8 * (k : Int) + 8 * (sz : Int)) := by
  intro hc
  have h1 : t.at x = some k := by rw [l.at wf z1, if_pos hc]
  obtain ⟨b1, b2⟩ := (at_iff wf).1 hj
  have h2 : t.at x = some j := by
    rw [at_iff l.wf]
    refine ⟨?_, ?_⟩
    · rw [l.beg]; unfold upd; split
      · rfl
      · exact b1
    · unfold St.lies at b2 ⊢
      rw [(l.old j b1).1]
      exact b2
  rw [h1] at h2
  cases h2
  rw [l.was] at b1
  cases b1
/-- What hung goes on hanging. -/
theorem Under.keep {s u : St} (hb : ∀ j, s.beg j = true → u.beg j = true) (hw : ∀ j i, s.beg j = true → i < 2 → u.word (j + i) = s.word (j + i)) (ha : ∀ x j, s.at x = some j → u.at x = some j) {j k : Nat} (h : Under s j k) : Under u j k := by
  induction h with
  | here j => exact .here j
  | down h1 h2 h3 _ ih => exact .down (hb _ h1) h2 (by rw [hw _ _ h1 h2]; exact ha _ _ h3) ih

/-- A new object of two words x and y. -/
theorem Grove.lay {s t : St} {m k : Nat} {R : List Nat} (h : Grove s m R) (l : LaidTo s k 2 false t) (x y : Int) :
    ∃ u, u = (t.setWd k x).setWd (k + 1) y ∧ Grove u (m + 1) (R ++ [k]) ∧ (∀ j k', s.beg j = true → Under s j k' → Under u j k') ∧ u.at (adr k) = some k ∧ (∀ z j, s.at z = some j → u.at z = some j) ∧ u.word k = x ∧ u.word (k + 1) = y := by
  refine ⟨_, rfl, ?_⟩
  have hbeg : ∀ j, ((t.setWd k x).setWd (k + 1) y).beg j = true ↔ j = k ∨ s.beg j = true := fun j => by
    show t.beg j = true ↔ _
    rw [l.beg]
    unfold upd
    by_cases e : j = k
    · simp [e]
    · simp [e]
  have hat : ∀ z, ((t.setWd k x).setWd (k + 1) y).at z = t.at z := fun _ => rfl
  have hka : ∀ z j, s.at z = some j → t.at z = some j := fun z j hz => by
    rw [l.at h.wf (by omega), if_neg (laid_apart h.wf l (by omega) hz)]; exact hz
  have hw : ∀ j i, s.beg j = true → i < 2 → ((t.setWd k x).setWd (k + 1) y).word (j + i) = s.word (j + i) := by
    intro j i hj hi
    have hz := h.at hj (8 * (i : Int)) (by omega) (by omega)
    have := laid_apart h.wf l (by omega) hz
    unfold adr at this
    show upd (upd t.word k x) (k + 1) y (j + i) = _
    rw [upd_other _ _ _ _ (by omega), upd_other _ _ _ _ (by omega), l.word]
    exact if_neg (by omega)
  have keep : ∀ j k', Under s j k' → Under ((t.setWd k x).setWd (k + 1) y) j k' := fun j k' hu => hu.keep (fun q hq => (hbeg q).2 (.inr hq)) hw (fun z q hz => by rw [hat]; exact hka z q hz)
  have hlt := l.lt
  rw [h.n] at hlt
  have hk : t.at (adr k) = some k := by rw [l.at h.wf (by omega), if_pos (by unfold adr; omega)]
  refine ⟨⟨l.n.trans h.n, (l.wf.setWd _ _).setWd _ _, fun p => by show t.blk p = false; rw [l.blk]; exact h.blk p, fun j hj => ?_, ?_, fun j hj => ?_, fun j hj => ?_⟩, fun j k' _ hu => keep j k' hu, by rw [hat]; exact hk, fun z j hz => by rw [hat]; exact hka z j hz, ?_, ?_⟩
  · show t.size (j / 32) = 2 ∧ t.atom (j / 32) = false
    rcases (hbeg j).1 hj with rfl | hj
    · exact l.sizeNew (by omega)
    · have a := l.old j hj
      have b := h.size j hj
      exact ⟨a.1.trans b.1, a.2.trans b.2⟩
  · show cntF t.beg 1536 = _
    rw [l.beg, cntF_upd (by omega) l.was, h.cnt]
  · rw [List.mem_append, List.mem_singleton] at hj
    rcases hj with hj | rfl
    · exact (hbeg j).2 (.inr (h.ro j hj))
    · exact (hbeg j).2 (.inl rfl)
  · rcases (hbeg j).1 hj with rfl | hj
    · exact ⟨j, by simp, .here j⟩
    · obtain ⟨q, q1, q2⟩ := h.un j hj
      exact ⟨q, by simp [q1], keep q j q2⟩
  · show upd (upd t.word k x) (k + 1) y k = x
    rw [upd_other _ _ _ _ (by omega)]; exact upd_same _ _ _
  · show upd (upd t.word k x) (k + 1) y (k + 1) = y
    exact upd_same _ _ _
/-- Two that hang on a third need not be held. -/
theorem Grove.tie {s : St} {m k a b : Nat} {A : List Nat} (h : Grove s m (a :: b :: A)) (hk : k ∈ A) (hb : s.beg k = true) (h1 : s.at (s.word k) = some a) (h2 : s.at (s.word (k + 1)) = some b) : Grove s m A := by
  refine ⟨h.n, h.wf, h.blk, h.size, h.cnt, fun j hj => h.ro j (by simp [hj]), fun j hj => ?_⟩
  obtain ⟨q, q1, q2⟩ := h.un j hj
  simp only [List.mem_cons] at q1
  rcases q1 with rfl | rfl | q1
  · exact ⟨k, hk, .down (i := 0) hb (by omega) h1 q2⟩
  · exact ⟨k, hk, .down (i := 1) hb (by omega) h2 q2⟩
  · exact ⟨q, q1, q2⟩
theorem Grove.perm {s : St} {m : Nat} {R R' : List Nat} (h : Grove s m R) (hp : ∀ k, k ∈ R ↔ k ∈ R') : Grove s m R' :=
  ⟨h.n, h.wf, h.blk, h.size, h.cnt, fun j hj => h.ro j ((hp j).2 hj), fun j hj => by obtain ⟨q, q1, q2⟩ := h.un j hj; exact ⟨q, (hp q).1 q1, q2⟩⟩
theorem Grove.roots {s : St} {m : Nat} {R : List Nat} (h : Grove s m R) (l : List Int) : Grove { s with roots := l } m R := by
  refine ⟨h.n, h.wf.roots l, h.blk, h.size, h.cnt, h.ro, fun j hj => ?_⟩
  obtain ⟨q, q1, q2⟩ := h.un j hj
  exact ⟨q, q1, Under.keep (s := s) (u := { s with roots := l }) (fun _ x => x) (fun _ _ _ _ => rfl) (fun _ _ x => x) q2⟩
/-- What hangs on something that is reached is reached. -/
theorem Under.reach {s : St} (hs : ∀ k, s.beg k = true → s.size (k / 32) = 2 ∧ s.atom (k / 32) = false) {j k : Nat} (h : Under s j k) (hr : s.Reach j) : s.Reach k := by
  induction h with
  | here j => exact hr
  | down h1 h2 h3 _ ih =>
    have := hs _ h1
    exact ih (.word hr this.2 (by rw [this.1]; exact h2) h3)
theorem Grove.reach {s : St} {m a : Nat} (h : Grove s m [a]) (hr : s.roots = [adr a + 9]) (k : Nat) : s.Reach k ↔ s.beg k = true := by
  refine ⟨fun hk => Reach.beg h.wf hk, fun hk => ?_⟩
  obtain ⟨q, q1, q2⟩ := h.un k hk
  obtain rfl := List.mem_singleton.1 q1
  refine q2.reach h.size (.root (x := adr q + 9) (by rw [hr]; simp) (h.at (h.ro q (by simp)) 9 (by omega) (by omega)))
end Go.Proofs.YtgegkcjllliifabDoor
