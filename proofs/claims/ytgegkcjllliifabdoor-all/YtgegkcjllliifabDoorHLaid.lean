/-
  The heap behind lay and behind drop.
-/
import Derived.Test.YtgegkcjllliifabDoorHPlace
namespace Go.Proofs.YtgegkcjllliifabDoor
open Go.RowKit

theorem layWd_eq (s : St) (w0 : Nat) : ∀ j, layWd s w0 j = { s with word := fun q => if w0 ≤ q ∧ q < w0 + j then 0 else s.word q }
  | 0 => by
    have h : ∀ q, ¬ (w0 ≤ q ∧ q < w0 + 0) := fun q => by omega
    simp only [layWd, if_neg (h _)]
  | j + 1 => by
    show (layWd s w0 j).setWd (w0 + j) 0 = _
    rw [layWd_eq s w0 j]
    simp only [St.setWd, upd_run]

/-- Behind lay: an object of that size and kind begins at word k. -/
structure LaidTo (s : St) (k sz : Nat) (at' : Bool) (t : St) : Prop where
  wf : WF t
  n : t.n = s.n
  beg : t.beg = upd s.beg k true
  was : s.beg k = false
  lt : k + sz ≤ s.n * 32
  word : t.word = fun q => if k ≤ q ∧ q < k + sz then 0 else s.word q
  blk : t.blk = s.blk
  roots : t.roots = s.roots
  room : t.room = s.room
  colls : t.colls = s.colls
  again : t.again = s.again
  trig : t.trig = s.trig
  since : t.since = s.since + sz
  run : ∀ q, k / 32 ≤ q → q < k / 32 + (sz + 31) / 32 → t.size q = sz ∧ t.atom q = at' ∧ t.back q = ((q - k / 32 : Nat) : Int) ∧ t.uns q = false
  page : ∀ q, ¬ (k / 32 ≤ q ∧ q < k / 32 + (sz + 31) / 32) → (t.size q = s.size q ∧ t.atom q = s.atom q ∧ t.back q = s.back q ∧ t.uns q = s.uns q) ∨ (t.size q = 0 ∧ t.uns q = false ∧ s.held q = false)
  old : ∀ j, s.beg j = true → t.size (j / 32) = s.size (j / 32) ∧ t.atom (j / 32) = s.atom (j / 32)

theorem tidN_rest (s : St) (F k : Nat) : (tidN s F k).room = s.room ∧ (tidN s F k).colls = s.colls ∧ (tidN s F k).again = s.again ∧ (tidN s F k).trig = s.trig ∧ (tidN s F k).since = s.since := by
  induction k with
  | zero => exact ⟨rfl, rfl, rfl, rfl, rfl⟩
  | succ k ih => exact ih

theorem laid_alone {s : St} (h : WF s) {sz F k : Nat} {at' : Bool} (z1 : 1 ≤ sz) (z2 : sz ≤ 1536) (zg : 16 < sz → sz % 32 = 0) (a : Alone s sz at' F k) : LaidTo s k sz at' (s.laid k sz at') := by
  have e : k / 32 = F := by have := a.pos; omega
  have hle := a.le
  have hh : ∀ j, j < (sz + 31) / 32 → s.held (F + j) = false := fun j hj => free_held (a.free j hj)
  have T := tidN_any h F _ hle hh _ (Nat.le_refl _)
  obtain ⟨r1, r2, r3, r4, r5⟩ := tidN_rest s F ((sz + 31) / 32)
  have hL : s.laid k sz at' = { over (tidN s F ((sz + 31) / 32)) F ((sz + 31) / 32) sz at' with word := fun q => if k ≤ q ∧ q < k + sz then 0 else s.word q, beg := upd s.beg k true, since := s.since + sz } := by
    unfold St.laid St.laid0
    rw [e, layPg_eq h F _ sz at' hle hh _ (Nat.le_refl _), layWd_eq]
    simp only [St.setBg, St.grown, over, T.word, T.beg, r5]
  generalize hc : (sz + 31) / 32 = c at *
  generalize ht : tidN s F c = t at *
  rw [hL]
  have hb0 : s.beg k = false := by
    cases hb : s.beg k with
    | false => rfl
    | true =>
      rw [← T.beg] at hb
      have x := (T.wf.bg k hb).2.1
      rw [T.zero (k / 32) (by omega) (by omega)] at x
      omega
  have hk : k = F * 32 := a.pos
  have hout : ∀ q, ¬ (F ≤ q ∧ q < F + c) → (over t F c sz at').size q = t.size q ∧ (over t F c sz at').atom q = t.atom q ∧ (over t F c sz at').back q = t.back q ∧ (over t F c sz at').uns q = t.uns q := fun q hq => over_out hq
  have hin : ∀ q, (F ≤ q ∧ q < F + c) → (over t F c sz at').size q = sz ∧ (over t F c sz at').atom q = at' ∧ (over t F c sz at').back q = ((q - F : Nat) : Int) ∧ (over t F c sz at').uns q = false := fun q hq => over_in hq
  refine ⟨⟨fun q hq => ?_, fun q hq => ?_, fun q hq x => ?_, fun q hq x => ?_, fun q hq x => ?_, fun q hq x j hj => ?_, fun q hq => ?_, fun q hq x u => ?_, fun q hq u => ?_⟩, T.n, rfl, hb0, ?_, rfl, T.blk, T.roots, r1, r2, r3, r4, rfl, fun q q1 q2 => ?_, fun q hq => ?_, fun j hj => ?_⟩
  · by_cases y : F ≤ q ∧ q < F + c
    · rw [show _ = _ from (hin q y).1]; omega
    · rw [show _ = _ from (hout q y).1]; exact T.wf.z0 q hq
  · by_cases y : F ≤ q ∧ q < F + c
    · rw [show _ = _ from (hin q y).1]; omega
    · rw [show _ = _ from (hout q y).1]; exact T.wf.z1 q hq
  · by_cases y : F ≤ q ∧ q < F + c
    · rw [show _ = _ from (hin q y).1] at x
      rw [show _ = _ from (hin q y).2.2.1]; omega
    · rw [show _ = _ from (hout q y).1] at x
      rw [show _ = _ from (hout q y).2.2.1]; exact T.wf.sm q hq x
  · by_cases y : F ≤ q ∧ q < F + c
    · rw [show _ = _ from (hin q y).1] at x ⊢
      omega
    · rw [show _ = _ from (hout q y).1] at x ⊢
      exact T.wf.gm q hq x
  · by_cases y : F ≤ q ∧ q < F + c
    · rw [show _ = _ from (hin q y).1] at x ⊢
      rw [show _ = _ from (hin q y).2.2.1]; omega
    · rw [show _ = _ from (hout q y).1] at x ⊢
      rw [show _ = _ from (hout q y).2.2.1]; exact T.wf.gb q hq x
  · by_cases y : F ≤ q ∧ q < F + c
    · rw [show _ = _ from (hin q y).1] at x hj ⊢
      rw [show _ = _ from (hin q y).2.1, show _ = _ from (hin q y).2.2.1]
      have e1 : q - ((q - F : Nat) : Int).toNat + j = F + j := by omega
      have y' : F ≤ F + j ∧ F + j < F + c := by omega
      rw [e1]
      refine ⟨by show F + j < t.n; rw [T.n]; omega, (hin _ y').1, (hin _ y').2.1, ?_⟩
      rw [show _ = _ from (hin _ y').2.2.1]; omega
    · rw [show _ = _ from (hout q y).1] at x hj ⊢
      rw [show _ = _ from (hout q y).2.1, show _ = _ from (hout q y).2.2.1]
      obtain ⟨g1, g2, g3, g4⟩ := T.wf.gr q hq x j hj
      have y' : ¬ (F ≤ q - (t.back q).toNat + j ∧ q - (t.back q).toNat + j < F + c) := by
        intro hc'
        have := T.zero _ hc'.1 hc'.2
        omega
      exact ⟨g1, (hout _ y').1.trans g2, (hout _ y').2.1.trans g3, (hout _ y').2.2.1.trans g4⟩
  · by_cases ek : q = k
    · have y : F ≤ q / 32 ∧ q / 32 < F + c := by omega
      rw [show _ = _ from (hin _ y).1, show _ = _ from (hin _ y).2.2.1]
      have hn := T.n
      refine ⟨by show q < t.n * 32; omega, by omega, fun _ => ⟨?_, by omega⟩, fun _ => ⟨by omega, by omega⟩⟩
      rw [show q % 32 = 0 by omega]; exact Nat.zero_mod _
    · have hq' : t.beg q = true := by
        rw [T.beg]
        have : upd s.beg k true q = true := hq
        rw [upd_other _ _ _ _ ek] at this
        exact this
      obtain ⟨b1, b2, b3, b4⟩ := T.wf.bg q hq'
      have y : ¬ (F ≤ q / 32 ∧ q / 32 < F + c) := by
        intro hc'
        have := T.zero _ hc'.1 hc'.2
        omega
      rw [show _ = _ from (hout _ y).1, show _ = _ from (hout _ y).2.2.1]
      exact ⟨b1, b2, b3, b4⟩
  · rw [St.held, any_iff]
    by_cases y : F ≤ q ∧ q < F + c
    · rw [show _ = _ from (hin q y).2.2.1]
      exact ⟨k, by omega, by omega, upd_same _ _ _⟩
    · rw [show _ = _ from (hout q y).1] at x
      rw [show _ = _ from (hout q y).2.2.2] at u
      have := T.wf.un q hq x u
      rw [St.held, any_iff] at this
      obtain ⟨i, i1, i2, i3⟩ := this
      rw [show _ = _ from (hout q y).2.2.1]
      refine ⟨i, i1, i2, ?_⟩
      show upd s.beg k true i = true
      rw [T.beg] at i3
      unfold upd
      split
      · rfl
      · exact i3
  · by_cases y : F ≤ q ∧ q < F + c
    · rw [show _ = _ from (hin q y).2.2.2] at u; cases u
    · rw [show _ = _ from (hout q y).2.2.2] at u
      rw [show _ = _ from (hout q y).1]
      exact T.wf.uz q hq u
  · by_cases c16 : sz ≤ 16 <;> omega
  · rw [e]
    exact hin q (by omega)
  · rw [e, hc] at hq
    obtain ⟨o1, o2, o3, o4⟩ := hout q hq
    rcases T.page q with ⟨p1, p2, p3, p4⟩ | ⟨p1, p2, p3⟩
    · exact .inl ⟨o1.trans p1, o2.trans p2, o3.trans p3, o4.trans p4⟩
    · exact .inr ⟨o1.trans p1, o4.trans p2, p3⟩
  · have hj' : t.beg j = true := by rw [T.beg]; exact hj
    have b2 := (T.wf.bg j hj').2.1
    have y : ¬ (F ≤ j / 32 ∧ j / 32 < F + c) := by
      intro hc'
      have := T.zero _ hc'.1 hc'.2
      omega
    obtain ⟨o1, o2, _, _⟩ := hout _ y
    rcases T.page (j / 32) with ⟨p1, p2, _, _⟩ | ⟨p1, _, _⟩
    · exact ⟨o1.trans p1, o2.trans p2⟩
    · omega

theorem upd_id {α : Type} (f : Nat → α) (k : Nat) : upd f k (f k) = f := by
  funext q
  unfold upd
  by_cases c : q = k
  · rw [if_pos c, c]
  · rw [if_neg c]

theorem laid_beside {s : St} (h : WF s) {sz p k : Nat} {at' : Bool} (z1 : 1 ≤ sz) (b : Beside s sz at' p k) : LaidTo s k sz at' (s.laid k sz at') := by
  obtain ⟨i, e, e2, e3, _⟩ := b.pos
  have c16 := b.sz16
  have lt := b.lt
  have ep : k / 32 = p := by omega
  have ec : (sz + 31) / 32 = 1 := by omega
  have hb0 : s.back p = 0 := h.sm p lt (by rw [b.size]; omega)
  have hf : s.first p = p := by unfold St.first; rw [hb0]; rfl
  have hany : s.any p = true := by have := b.held; unfold St.held at this; rw [hb0] at this; exact this
  have hcount : s.count p = 1 := by unfold St.count; rw [hf, b.size]; omega
  have hL : s.laid k sz at' = { s with uns := upd s.uns p false, word := fun q => if k ≤ q ∧ q < k + sz then 0 else s.word q, beg := upd s.beg k true, since := s.since + sz } := by
    have h1 : layPg s p sz at' 1 = { s with uns := upd s.uns p false } := by
      show (s.tidied p).setPg p sz at' 0 false = _
      unfold St.tidied
      rw [hf, hany, hcount]
      obtain ⟨q1, q2, q3⟩ := tidK_false s p 1
      have q4 : upd (tidK s p false 1).uns p false = upd s.uns p false := by
        funext q
        unfold upd
        by_cases c : q = p
        · rw [if_pos c, if_pos c]
        · rw [if_neg c, if_neg c]
          show (if p ≤ q ∧ q < p + 1 then false else s.uns q) = _
          rw [if_neg (by omega)]
      simp only [Bool.not_true, St.setPg, St.setSz, St.setAt, St.setBk, St.setUn]
      rw [q1, q2, q3, q4, ← b.size, ← b.atom, upd_id, upd_id]
      rw [show upd s.back p 0 = s.back by rw [← hb0]; exact upd_id _ _]
      rfl
    unfold St.laid St.laid0
    rw [ep, ec, h1, layWd_eq]
    rfl
  rw [hL]
  have hany' : ∀ r, s.any r = true → St.any { s with uns := upd s.uns p false, word := fun q => if k ≤ q ∧ q < k + sz then 0 else s.word q, beg := upd s.beg k true, since := s.since + sz } r = true := by
    intro r hr
    rw [any_iff] at hr ⊢
    obtain ⟨j, j1, j2, j3⟩ := hr
    refine ⟨j, j1, j2, ?_⟩
    show upd s.beg k true j = true
    unfold upd
    split
    · rfl
    · exact j3
  refine ⟨⟨h.z0, h.z1, h.sm, h.gm, h.gb, h.gr, fun q hq => ?_, fun q hq x u => ?_, fun q hq u => ?_⟩, rfl, rfl, e3, by omega, rfl, rfl, rfl, rfl, rfl, rfl, rfl, rfl, fun q q1 q2 => ?_, fun q hq => .inl ⟨rfl, rfl, rfl, ?_⟩, fun j _ => ⟨rfl, rfl⟩⟩
  · by_cases ek : q = k
    · have eq : q / 32 = p := by omega
      show q < s.n * 32 ∧ 0 < s.size (q / 32) ∧ (s.size (q / 32) ≤ 16 → q % 32 % (s.size (q / 32)).toNat = 0 ∧ q % 32 + (s.size (q / 32)).toNat ≤ 32) ∧ (16 < s.size (q / 32) → s.back (q / 32) = 0 ∧ q % 32 = 0)
      rw [eq, b.size]
      refine ⟨by omega, by omega, fun _ => ⟨?_, by omega⟩, fun x => by omega⟩
      rw [show q % 32 = i * sz by omega]
      exact Nat.mul_mod_left _ _
    · have : upd s.beg k true q = true := hq
      rw [upd_other _ _ _ _ ek] at this
      exact h.bg q this
  · by_cases y : q = p
    · rw [y]
      exact hany' _ (by have := b.held; exact this)
    · have u' : upd s.uns p false q = false := u
      rw [upd_other _ _ _ _ y] at u'
      exact hany' _ (h.un q hq x u')
  · have u' : upd s.uns p false q = true := u
    by_cases y : q = p
    · rw [y, upd_same] at u'; cases u'
    · rw [upd_other _ _ _ _ y] at u'
      exact h.uz q hq u'
  · rw [ep] at q1
    rw [ep, ec] at q2
    obtain rfl : q = p := by omega
    exact ⟨b.size, b.atom, by rw [ep, Nat.sub_self]; exact hb0, upd_same _ _ _⟩
  · exact upd_other _ _ _ _ (by rw [ep, ec] at hq; omega)

/-- Where the heap finds room it lays the object there. -/
theorem place_laid {s : St} (h : WF s) {sz k : Nat} {at' : Bool} (z1 : 1 ≤ sz) (z2 : sz ≤ 1536) (zg : 16 < sz → sz % 32 = 0) (hp : s.place sz at' = some k) : s.LayOk k sz at' ∧ LaidTo s k sz at' (s.laid k sz at') := by
  rcases place_some z1 hp with ⟨p, b⟩ | ⟨⟨F, a⟩, _⟩
  · exact ⟨layOk_beside h z1 b, laid_beside h z1 b⟩
  · exact ⟨layOk_alone h a, laid_alone h z1 z2 zg a⟩

theorem WF.setWd {s : St} (h : WF s) (k : Nat) (v : Int) : WF (s.setWd k v) := ⟨h.z0, h.z1, h.sm, h.gm, h.gb, h.gr, h.bg, h.un, h.uz⟩

/-- Behind drop: the object that began at word k has gone. -/
structure DropTo (s : St) (k : Nat) (t : St) : Prop where
  wf : WF t
  n : t.n = s.n
  beg : t.beg = upd s.beg k false
  word : t.word = s.word
  blk : t.blk = s.blk
  roots : t.roots = s.roots
  room : t.room = s.room
  colls : t.colls = s.colls
  again : t.again = s.again
  trig : t.trig = s.trig
  since : t.since = s.since
  page : ∀ q, q < s.n → (t.size q = s.size q ∧ t.atom q = s.atom q ∧ t.back q = s.back q) ∨ (t.size q = 0 ∧ t.held q = false)

theorem held_le {s t : St} {q : Nat} (hb : ∀ k, t.beg k = true → s.beg k = true) (h : t.back q = s.back q) (ht : t.held q = true) : s.held q = true := by
  unfold St.held at ht ⊢
  rw [any_iff] at ht ⊢
  obtain ⟨k, k1, k2, k3⟩ := ht
  rw [h] at k1 k2
  exact ⟨k, k1, k2, hb k k3⟩

theorem dropped_to {s : St} (h : WF s) {k : Nat} (hk : s.beg k = true) : DropTo s k (s.dropped k) := by
  have hp : k / 32 < s.n := by have := (h.bg k hk).1; omega
  have hkz := (h.bg k hk).2.1
  have hsub : ∀ j, upd s.beg k false j = true → s.beg j = true := by
    intro j hj
    by_cases e : j = k
    · rw [e, upd_same] at hj; cases hj
    · rw [upd_other _ _ _ _ e] at hj; exact hj
  have h2 : WF { s with beg := upd s.beg k false, uns := fun q => if s.first (k / 32) ≤ q ∧ q < s.first (k / 32) + s.count (k / 32) then true else s.uns q } := by
    refine ⟨h.z0, h.z1, h.sm, h.gm, h.gb, h.gr, fun j hj => h.bg j (hsub j hj), fun q hq x u => ?_, fun q hq u => ?_⟩
    · by_cases c : s.first (k / 32) ≤ q ∧ q < s.first (k / 32) + s.count (k / 32)
      · have : (if s.first (k / 32) ≤ q ∧ q < s.first (k / 32) + s.count (k / 32) then true else s.uns q) = false := u
        rw [if_pos c] at this; cases this
      · have u' : (if s.first (k / 32) ≤ q ∧ q < s.first (k / 32) + s.count (k / 32) then true else s.uns q) = false := u
        rw [if_neg c] at u'
        have hh := h.un q hq x u'
        unfold St.held at hh ⊢
        rw [any_iff] at hh ⊢
        obtain ⟨j, j1, j2, j3⟩ := hh
        refine ⟨j, j1, j2, ?_⟩
        show upd s.beg k false j = true
        rw [upd_other]
        · exact j3
        · intro e
          apply c
          have jq : j / 32 = s.first q := by unfold St.first; omega
          rw [e] at jq
          rcases h.run hq with ⟨a, b, c'⟩ | ⟨a, b, c', d⟩ | ⟨a, b, c', d, e'⟩
          · have : 0 < s.size q := x; omega
          · rcases h.run hp with ⟨a', b', c2⟩ | ⟨a', b', c2, d2⟩ | ⟨a', b', c2, d2, e2⟩ <;> omega
          · refine h.apart hp hq (r := k / 32) ?_ ?_ (by omega) (by omega)
            · rcases h.run hp with ⟨a', b', c2⟩ | ⟨a', b', c2, d2⟩ | ⟨a', b', c2, d2, e2⟩ <;> omega
            · rcases h.run hp with ⟨a', b', c2⟩ | ⟨a', b', c2, d2⟩ | ⟨a', b', c2, d2, e2⟩ <;> omega
    · have u' : (if s.first (k / 32) ≤ q ∧ q < s.first (k / 32) + s.count (k / 32) then true else s.uns q) = true := u
      by_cases c : s.first (k / 32) ≤ q ∧ q < s.first (k / 32) + s.count (k / 32)
      · have := (h.inrun hp c.1 c.2).2.1
        show 0 < s.size q
        omega
      · rw [if_neg c] at u'
        exact h.uz q hq u'
  have he : St.tidied { s with beg := upd s.beg k false, uns := fun q => if s.first (k / 32) ≤ q ∧ q < s.first (k / 32) + s.count (k / 32) then true else s.uns q } (k / 32) = s.dropped k := by
    unfold St.dropped St.tidied
    simp only [tidK, St.setBg]
    congr 1
    funext q
    show (if s.first (k / 32) ≤ q ∧ q < s.first (k / 32) + s.count (k / 32) then false else if s.first (k / 32) ≤ q ∧ q < s.first (k / 32) + s.count (k / 32) then true else s.uns q) = (if s.first (k / 32) ≤ q ∧ q < s.first (k / 32) + s.count (k / 32) then false else s.uns q)
    by_cases c : s.first (k / 32) ≤ q ∧ q < s.first (k / 32) + s.count (k / 32)
    · rw [if_pos c, if_pos c]
    · rw [if_neg c, if_neg c, if_neg c]
  rw [← he]
  refine ⟨h2.tidied hp, rfl, rfl, rfl, rfl, rfl, rfl, rfl, rfl, rfl, rfl, fun q _ => ?_⟩
  rw [tid_held h2 hp]
  by_cases c : s.first (k / 32) ≤ q ∧ q < s.first (k / 32) + s.count (k / 32)
  · cases hany : St.any { s with beg := upd s.beg k false, uns := fun q => if s.first (k / 32) ≤ q ∧ q < s.first (k / 32) + s.count (k / 32) then true else s.uns q } (s.first (k / 32)) with
    | true => have := tid_keep (p := k / 32) hany c; exact .inl ⟨this.1, this.2.1, this.2.2.1⟩
    | false =>
      have := tid_in (p := k / 32) hany c
      refine .inr ⟨this.1, ?_⟩
      have hf := (h2.inrun hp c.1 c.2).2.2.2.1
      unfold St.held
      unfold St.first at hf hany
      exact (congrArg _ hf).trans hany
  · have := tid_out (s := { s with beg := upd s.beg k false, uns := fun q => if s.first (k / 32) ≤ q ∧ q < s.first (k / 32) + s.count (k / 32) then true else s.uns q }) (p := k / 32) c
    exact .inl ⟨this.1, this.2.1, this.2.2.1⟩
end Go.Proofs.YtgegkcjllliifabDoor
