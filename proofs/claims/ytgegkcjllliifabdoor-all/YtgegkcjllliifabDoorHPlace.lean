/-
  Where an object is laid, and that laying it keeps what the tables keep to.
-/
import Derived.Test.YtgegkcjllliifabDoorHWf
namespace Go.Proofs.YtgegkcjllliifabDoor
open Go.RowKit

theorem freeFrom_some {s : St} {st sz : Nat} : ∀ {f k r : Nat}, freeFrom s st sz f k = some r → ∃ i, r = k + i * sz ∧ r + sz ≤ st + 32 ∧ s.beg r = false ∧ ∀ j, j < i → s.beg (k + j * sz) = true
  | 0, _, _, h => by cases h
  | f + 1, k, r, h => by
    unfold freeFrom at h
    split at h
    · rename_i c
      split at h
      · rename_i hb
        obtain ⟨i, e, h1, h2, h3⟩ := freeFrom_some h
        refine ⟨i + 1, by rw [e, Nat.add_mul]; omega, h1, h2, fun j hj => ?_⟩
        cases j with
        | zero => simpa using hb
        | succ j => have := h3 j (by omega); rw [show k + (j + 1) * sz = k + sz + j * sz by rw [Nat.add_mul]; omega]; exact this
      · rename_i hb
        cases h
        exact ⟨0, by simp, c, by simpa using hb, fun j hj => by omega⟩
    · cases h
theorem freeFrom_none {s : St} {st sz : Nat} (hz : 1 ≤ sz) : ∀ {f k : Nat}, freeFrom s st sz f k = none → st + 33 ≤ k + f → ∀ j, k + j * sz + sz ≤ st + 32 → s.beg (k + j * sz) = true
  | 0, k, _, hf, j, hj => by have : k + 0 ≤ k + j * sz := by omega
                             omega
  | f + 1, k, h, hf, j, hj => by
    unfold freeFrom at h
    have h0 : k ≤ k + j * sz := Nat.le_add_right _ _
    rw [if_pos (by omega)] at h
    split at h
    · rename_i hb
      cases j with
      | zero => simpa using hb
      | succ j =>
        rw [show k + (j + 1) * sz = k + sz + j * sz by rw [Nat.add_mul]; omega] at hj ⊢
        exact freeFrom_none hz h (by omega) j hj
    · cases h

/-- The lowest page that will do. -/
theorem sharedFrom_some {s : St} {sz : Nat} {at' : Bool} : ∀ {m k : Nat}, m ≤ s.n → sharedFrom s sz at' m = some k → ∃ p, p < s.n ∧ s.n - m ≤ p ∧ s.share sz at' p = some k ∧ ∀ q, s.n - m ≤ q → q < p → s.share sz at' q = none
  | 0, _, _, h => by cases h
  | m + 1, k, hm, h => by
    unfold sharedFrom at h
    split at h
    · rename_i x hx
      cases h
      exact ⟨s.n - (m + 1), by omega, by omega, hx, fun q h1 h2 => by omega⟩
    · rename_i hx
      obtain ⟨p, h1, h2, h3, h4⟩ := sharedFrom_some (by omega) h
      refine ⟨p, h1, by omega, h3, fun q h5 h6 => ?_⟩
      by_cases e : q = s.n - (m + 1)
      · rw [e]; exact hx
      · exact h4 q (by omega) h6
theorem sharedFrom_none {s : St} {sz : Nat} {at' : Bool} : ∀ {m : Nat}, m ≤ s.n → sharedFrom s sz at' m = none → ∀ p, s.n - m ≤ p → p < s.n → s.share sz at' p = none
  | 0, _, _, p, h1, h2 => by omega
  | m + 1, hm, h, p, h1, h2 => by
    unfold sharedFrom at h
    split at h
    · cases h
    · rename_i hx
      by_cases e : p = s.n - (m + 1)
      · rw [e]; exact hx
      · exact sharedFrom_none (by omega) h p (by omega) h2

theorem emptyFrom_some {s : St} {at' : Bool} {count : Nat} (hc : 1 ≤ count) : ∀ {m run k : Nat}, m ≤ s.n → run ≤ s.n - m → run < count → (∀ j, j < run → s.free (s.n - m - run + j) at' = true) → emptyFrom s at' count m run = some k →
    ∃ F, k = F * 32 ∧ F + count ≤ s.n ∧ ∀ j, j < count → s.free (F + j) at' = true
  | 0, _, _, _, _, _, _, h => by cases h
  | m + 1, run, k, hm, hr, hlt, hfree, h => by
    unfold emptyFrom at h
    split at h
    · rename_i hf
      split at h
      · rename_i e
        cases h
        refine ⟨s.n - m - count, rfl, by omega, fun j hj => ?_⟩
        by_cases e2 : j = run
        · rw [show s.n - m - count + j = s.n - (m + 1) by omega]; exact hf
        · have := hfree j (by omega)
          rw [show s.n - m - count + j = s.n - (m + 1) - run + j by omega]; exact this
      · rename_i e
        refine emptyFrom_some hc (by omega) (by omega) (by omega) (fun j hj => ?_) h
        by_cases e2 : j = run
        · rw [show s.n - m - (run + 1) + j = s.n - (m + 1) by omega]; exact hf
        · have := hfree j (by omega)
          rw [show s.n - m - (run + 1) + j = s.n - (m + 1) - run + j by omega]; exact this
    · exact emptyFrom_some hc (by omega) (by omega) (by omega) (fun j hj => by omega) h
/-- If it finds nothing there is no such run. -/
theorem emptyFrom_none {s : St} {at' : Bool} {count : Nat} (hc : 1 ≤ count) : ∀ {m run : Nat}, m ≤ s.n → run ≤ s.n - m → run < count → emptyFrom s at' count m run = none →
    ∀ F, s.n - m - run ≤ F → F + count ≤ s.n → ∃ j, j < count ∧ s.n - m ≤ F + j ∧ s.free (F + j) at' = false
  | 0, run, _, hr, hlt, _, F, h1, h2 => by omega
  | m + 1, run, hm, hr, hlt, h, F, h1, h2 => by
    unfold emptyFrom at h
    split at h
    · rename_i hf
      split at h
      · cases h
      · rename_i e
        obtain ⟨j, j1, j2, j3⟩ := emptyFrom_none hc (by omega) (by omega) (by omega) h F (by omega) h2
        exact ⟨j, j1, by omega, j3⟩
    · rename_i hf
      have hf' : s.free (s.n - (m + 1)) at' = false := by simpa using hf
      by_cases c : F ≤ s.n - (m + 1)
      · exact ⟨s.n - (m + 1) - F, by omega, by omega, by rw [show F + (s.n - (m + 1) - F) = s.n - (m + 1) by omega]; exact hf'⟩
      · obtain ⟨j, j1, j2, j3⟩ := emptyFrom_none hc (by omega) (by omega) (by omega) h F (by omega) h2
        exact ⟨j, j1, by omega, j3⟩

/-- A place beside others. -/
structure Beside (s : St) (sz : Nat) (at' : Bool) (p k : Nat) : Prop where
  sz16 : sz ≤ 16
  lt : p < s.n
  size : s.size p = sz
  atom : s.atom p = at'
  held : s.held p = true
  pos : ∃ i, k = p * 32 + i * sz ∧ i * sz + sz ≤ 32 ∧ s.beg k = false ∧ ∀ j, j < i → s.beg (p * 32 + j * sz) = true
/-- Pages of its own. -/
structure Alone (s : St) (sz : Nat) (at' : Bool) (F k : Nat) : Prop where
  pos : k = F * 32
  le : F + (sz + 31) / 32 ≤ s.n
  free : ∀ j, j < (sz + 31) / 32 → s.free (F + j) at' = true

theorem place_some {s : St} {sz k : Nat} {at' : Bool} (hz : 1 ≤ sz) (h : s.place sz at' = some k) : (∃ p, Beside s sz at' p k) ∨ (∃ F, Alone s sz at' F k) ∧ (sz ≤ 16 → ∀ p, p < s.n → s.share sz at' p = none) := by
  unfold St.place at h
  split at h
  · rename_i x hx
    cases h
    split at hx
    · rename_i c
      obtain ⟨p, h1, _, h3, _⟩ := sharedFrom_some (Nat.le_refl _) hx
      unfold St.share at h3
      split at h3
      · rename_i e
        obtain ⟨i, e1, e2, e3, e4⟩ := freeFrom_some h3
        exact .inl ⟨p, c, h1, e.1, e.2.1, e.2.2, i, e1, by omega, e3, e4⟩
      · cases h3
    · cases hx
  · rename_i hx
    right
    obtain ⟨F, h1, h2, h3⟩ := emptyFrom_some (s := s) (at' := at') (count := (sz + 31) / 32) (by omega) (Nat.le_refl _) (by omega) (by omega) (fun j hj => by omega) h
    refine ⟨⟨F, h1, h2, h3⟩, fun c => ?_⟩
    rw [if_pos c] at hx
    intro p hp
    exact sharedFrom_none (Nat.le_refl _) hx p (by omega) hp
theorem place_none {s : St} {sz : Nat} {at' : Bool} (hz : 1 ≤ sz) (h : s.place sz at' = none) : (sz ≤ 16 → ∀ p, p < s.n → s.share sz at' p = none) ∧ ∀ F, F + (sz + 31) / 32 ≤ s.n → ∃ j, j < (sz + 31) / 32 ∧ s.free (F + j) at' = false := by
  unfold St.place at h
  split at h
  · cases h
  · rename_i hx
    refine ⟨fun c p hp => ?_, fun F hF => ?_⟩
    · rw [if_pos c] at hx
      exact sharedFrom_none (Nat.le_refl _) hx p (by omega) hp
    · obtain ⟨j, j1, _, j3⟩ := emptyFrom_none (s := s) (at' := at') (count := (sz + 31) / 32) (by omega) (Nat.le_refl _) (by omega) (by omega) h F (by omega) hF
      exact ⟨j, j1, j3⟩
theorem free_held {s : St} {p : Nat} {at' : Bool} (h : s.free p at' = true) : s.held p = false := by
  unfold St.free at h
  simp at h
  exact h.2

/-! Laying it. -/
def tidN (s : St) (F : Nat) : Nat → St
  | 0 => s
  | k + 1 => (tidN s F k).tidied (F + k)
def over (s : St) (F k : Nat) (sz : Int) (at' : Bool) : St :=
  { s with size := fun q => if F ≤ q ∧ q < F + k then sz else s.size q, atom := fun q => if F ≤ q ∧ q < F + k then at' else s.atom q,
           back := fun q => if F ≤ q ∧ q < F + k then ((q - F : Nat) : Int) else s.back q, uns := fun q => if F ≤ q ∧ q < F + k then false else s.uns q }
theorem over_zero (s : St) (F : Nat) (sz : Int) (at' : Bool) : over s F 0 sz at' = s := by
  have h : ∀ q, ¬ (F ≤ q ∧ q < F + 0) := fun q => by omega
  simp only [over, if_neg (h _)]

structure TidN (s t : St) (F k c : Nat) : Prop where
  wf : WF t
  n : t.n = s.n
  beg : t.beg = s.beg
  held : ∀ q, t.held q = s.held q
  zero : ∀ q, F ≤ q → q < F + k → t.size q = 0
  word : t.word = s.word
  blk : t.blk = s.blk
  roots : t.roots = s.roots
  page : ∀ q, (t.size q = s.size q ∧ t.atom q = s.atom q ∧ t.back q = s.back q ∧ t.uns q = s.uns q) ∨ (t.size q = 0 ∧ t.uns q = false ∧ s.held q = false)

theorem any_beg {s t : St} (h : t.beg = s.beg) (p : Nat) : t.any p = s.any p := by unfold St.any; rw [h]

theorem tidN_any {s : St} (h : WF s) (F c : Nat) (hF : F + c ≤ s.n) (hh : ∀ j, j < c → s.held (F + j) = false) : ∀ k, k ≤ c → TidN s (tidN s F k) F k c
  | 0, _ => ⟨h, rfl, rfl, fun _ => rfl, fun q h1 h2 => by omega, rfl, rfl, rfl, fun q => .inl ⟨rfl, rfl, rfl, rfl⟩⟩
  | k + 1, hk => by
    obtain ⟨wf, n, beg, held, zero, wd, bl, rt, page⟩ := tidN_any h F c hF hh k (by omega)
    have hlt : F + k < (tidN s F k).n := by rw [n]; omega
    have hany : (tidN s F k).any ((tidN s F k).first (F + k)) = false := by
      have := held (F + k)
      rw [hh k (by omega)] at this
      exact this
    refine ⟨wf.tidied hlt, n, beg, fun q => ?_, fun q h1 h2 => ?_, wd, bl, rt, fun q => ?_⟩
    · show ((tidN s F k).tidied (F + k)).held q = _
      rw [tid_held wf hlt]; exact held q
    · show ((tidN s F k).tidied (F + k)).size q = 0
      by_cases e : (tidN s F k).first (F + k) ≤ q ∧ q < (tidN s F k).first (F + k) + (tidN s F k).count (F + k)
      · exact (tid_in hany e).1
      · rw [(tid_out e).1]
        by_cases e2 : q = F + k
        · rcases wf.run hlt with ⟨a, b, c⟩ | ⟨a, b, c, d⟩ | ⟨a, b, c, d, e'⟩
          · rw [e2]; exact a
          · omega
          · omega
        · exact zero q h1 (by omega)
    · show ((((tidN s F k).tidied (F + k)).size q = _ ∧ _ ∧ _ ∧ ((tidN s F k).tidied (F + k)).uns q = _) ∨ _)
      by_cases e : (tidN s F k).first (F + k) ≤ q ∧ q < (tidN s F k).first (F + k) + (tidN s F k).count (F + k)
      · right
        have x := tid_in hany e
        refine ⟨x.1, x.2.2.2, ?_⟩
        rw [← held q]
        have hf := (wf.inrun hlt e.1 e.2).2.2.2.1
        unfold St.held
        unfold St.first at hf hany
        rw [hf]
        exact hany
      · have x := tid_out e
        rcases page q with ⟨p1, p2, p3, p4⟩ | ⟨p1, p2, p3⟩
        · exact .inl ⟨x.1.trans p1, x.2.1.trans p2, x.2.2.1.trans p3, x.2.2.2.trans p4⟩
        · exact .inr ⟨x.1.trans p1, x.2.2.2.trans p2, p3⟩

theorem over_out {t : St} {F k q : Nat} {sz : Int} {at' : Bool} (h : ¬ (F ≤ q ∧ q < F + k)) : (over t F k sz at').size q = t.size q ∧ (over t F k sz at').atom q = t.atom q ∧ (over t F k sz at').back q = t.back q ∧ (over t F k sz at').uns q = t.uns q := by
  simp only [over, if_neg h, and_self]
theorem over_in {t : St} {F k q : Nat} {sz : Int} {at' : Bool} (h : F ≤ q ∧ q < F + k) : (over t F k sz at').size q = sz ∧ (over t F k sz at').atom q = at' ∧ (over t F k sz at').back q = ((q - F : Nat) : Int) ∧ (over t F k sz at').uns q = false := by
  simp only [over, if_pos h, and_self]

/-- The run of the next page is not yet written over. -/
theorem over_run {s t : St} {F k c : Nat} (sz : Int) (at' : Bool) (h : TidN s t F k c) (hlt : F + k < t.n) : (over t F k sz at').first (F + k) = t.first (F + k) ∧ (over t F k sz at').count (F + k) = t.count (F + k) ∧ (∀ q, t.first (F + k) ≤ q ∧ q < t.first (F + k) + t.count (F + k) → ¬ (F ≤ q ∧ q < F + k)) ∧
    (over t F k sz at').size (t.first (F + k)) = t.size (t.first (F + k)) := by
  have e1 : (over t F k sz at').first (F + k) = t.first (F + k) := by
    unfold St.first
    rw [(over_out (t := t) (F := F) (k := k) (q := F + k) (by omega)).2.2.1]
  have hd : ∀ q, t.first (F + k) ≤ q ∧ q < t.first (F + k) + t.count (F + k) → ¬ (F ≤ q ∧ q < F + k) := by
    intro q hq hc
    have a := (h.wf.inrun hlt hq.1 hq.2).2.1
    have b := h.zero q hc.1 hc.2
    rcases h.wf.run hlt with ⟨x, y, z⟩ | ⟨x, y, z, d⟩ | ⟨x, y, z, d, e'⟩ <;> omega
  have hf : ¬ (F ≤ t.first (F + k) ∧ t.first (F + k) < F + k) := by
    rcases h.wf.run hlt with ⟨x, y, z⟩ | ⟨x, y, z, d⟩ | ⟨x, y, z, d, e'⟩
    · omega
    · omega
    · exact hd _ ⟨Nat.le_refl _, by omega⟩
  have e3 := (over_out (t := t) (sz := sz) (at' := at') hf).1
  refine ⟨e1, ?_, hd, e3⟩
  unfold St.count
  rw [e1, e3]

theorem over_step {s t : St} {F k c : Nat} (sz : Int) (at' : Bool) (h : TidN s t F k c) (hlt : F + k < t.n) : ((over t F k sz at').tidied (F + k)).setPg (F + k) sz at' k false = over (t.tidied (F + k)) F (k + 1) sz at' := by
  obtain ⟨e1, e2, e3, _⟩ := over_run sz at' h hlt
  have ea : (over t F k sz at').any (t.first (F + k)) = t.any (t.first (F + k)) := rfl
  have key : ∀ (α : Type) (g : Nat → α) (v z : α), z = v ∨ True → upd (fun q => if (!t.any (t.first (F + k))) = true ∧ t.first (F + k) ≤ q ∧ q < t.first (F + k) + t.count (F + k) then z else if F ≤ q ∧ q < F + k then v else g q) (F + k) v = fun q => if F ≤ q ∧ q < F + (k + 1) then v else if (!t.any (t.first (F + k))) = true ∧ t.first (F + k) ≤ q ∧ q < t.first (F + k) + t.count (F + k) then z else g q := by
    intro α g v z _
    funext q
    unfold upd
    by_cases c1 : q = F + k
    · rw [if_pos c1, if_pos (by omega)]
    · rw [if_neg c1]
      dsimp only
      by_cases c2 : F ≤ q ∧ q < F + k
      · rw [if_neg (fun x => e3 q x.2 c2), if_pos c2, if_pos (by omega)]
      · rw [if_neg c2, if_neg (by omega : ¬ (F ≤ q ∧ q < F + (k + 1)))]
  have keyb : upd (fun q => if (!t.any (t.first (F + k))) = true ∧ t.first (F + k) ≤ q ∧ q < t.first (F + k) + t.count (F + k) then (0 : Int) else if F ≤ q ∧ q < F + k then ((q - F : Nat) : Int) else t.back q) (F + k) (k : Int) = fun q => if F ≤ q ∧ q < F + (k + 1) then ((q - F : Nat) : Int) else if (!t.any (t.first (F + k))) = true ∧ t.first (F + k) ≤ q ∧ q < t.first (F + k) + t.count (F + k) then 0 else t.back q := by
    funext q
    unfold upd
    by_cases c1 : q = F + k
    · rw [if_pos c1, if_pos (by omega)]; omega
    · rw [if_neg c1]
      dsimp only
      by_cases c2 : F ≤ q ∧ q < F + k
      · rw [if_neg (fun x => e3 q x.2 c2), if_pos c2, if_pos (by omega)]
      · rw [if_neg c2, if_neg (by omega : ¬ (F ≤ q ∧ q < F + (k + 1)))]
  have keyu : upd (fun q => if t.first (F + k) ≤ q ∧ q < t.first (F + k) + t.count (F + k) then false else if F ≤ q ∧ q < F + k then false else t.uns q) (F + k) false = fun q => if F ≤ q ∧ q < F + (k + 1) then false else if t.first (F + k) ≤ q ∧ q < t.first (F + k) + t.count (F + k) then false else t.uns q := by
    funext q
    unfold upd
    by_cases c1 : q = F + k
    · rw [if_pos c1, if_pos (by omega)]
    · rw [if_neg c1]
      dsimp only
      by_cases c2 : F ≤ q ∧ q < F + k
      · rw [if_pos c2, if_pos (by omega : F ≤ q ∧ q < F + (k + 1))]; simp
      · rw [if_neg c2, if_neg (by omega : ¬ (F ≤ q ∧ q < F + (k + 1)))]
  have k1 := key Int t.size sz 0 (.inr trivial)
  have k2 := key Bool t.atom at' false (.inr trivial)
  unfold St.tidied
  rw [e1, e2, ea]
  simp only [tidK, over, St.setPg, St.setSz, St.setAt, St.setBk, St.setUn]
  rw [k1, k2, keyb, keyu]

theorem layPg_eq {s : St} (h : WF s) (F c : Nat) (sz : Int) (at' : Bool) (hF : F + c ≤ s.n) (hh : ∀ j, j < c → s.held (F + j) = false) : ∀ k, k ≤ c → layPg s F sz at' k = over (tidN s F k) F k sz at'
  | 0, _ => (over_zero s F sz at').symm
  | k + 1, hk => by
    have ih := layPg_eq h F c sz at' hF hh k (by omega)
    have t := tidN_any h F c hF hh k (by omega)
    show ((layPg s F sz at' k).tidied (F + k)).setPg (F + k) sz at' k false = _
    rw [ih]
    exact over_step sz at' t (by rw [t.n]; omega)

theorem layPg_rb {s : St} (h : WF s) (F c : Nat) (sz : Int) (at' : Bool) (hF : F + c ≤ s.n) (hh : ∀ j, j < c → s.held (F + j) = false) (k : Nat) (hk : k < c) : (layPg s F sz at' k).RB (F + k) := by
  have t := tidN_any h F c hF hh k (by omega)
  have hlt : F + k < (tidN s F k).n := by rw [t.n]; omega
  obtain ⟨e1, e2, e3, e4⟩ := over_run sz at' t hlt
  have rb := t.wf.rb hlt
  rw [layPg_eq h F c sz at' hF hh k (by omega)]
  have eb := (over_out (t := tidN s F k) (F := F) (k := k) (q := F + k) (sz := sz) (at' := at') (by omega)).2.2.1
  exact ⟨hlt, by rw [eb]; exact rb.b0, by rw [eb]; exact rb.bp, by rw [e1, e4]; exact rb.z0, by rw [e1, e4]; exact rb.z1, by rw [e1, e2]; exact rb.run⟩

theorem layOk_alone {s : St} (h : WF s) {sz F k : Nat} {at' : Bool} (a : Alone s sz at' F k) : s.LayOk k sz at' := by
  have e : k / 32 = F := by have := a.pos; omega
  have hle := a.le
  refine ⟨by rw [e]; exact hle, ?_, fun j hj => ?_⟩
  · have := a.pos
    by_cases c : sz ≤ 16 <;> omega
  · rw [e]
    exact layPg_rb h F _ sz at' hle (fun j hj => free_held (a.free j hj)) j hj
theorem layOk_beside {s : St} (h : WF s) {sz p k : Nat} {at' : Bool} (z1 : 1 ≤ sz) (b : Beside s sz at' p k) : s.LayOk k sz at' := by
  obtain ⟨i, e, e2, _⟩ := b.pos
  have c16 := b.sz16
  have lt := b.lt
  have ep : k / 32 = p := by omega
  have ec : (sz + 31) / 32 = 1 := by omega
  refine ⟨by rw [ep, ec]; omega, by omega, fun j hj => ?_⟩
  rw [ec] at hj
  obtain rfl : j = 0 := by omega
  rw [ep]
  exact h.rb lt
end Go.Proofs.YtgegkcjllliifabDoor
