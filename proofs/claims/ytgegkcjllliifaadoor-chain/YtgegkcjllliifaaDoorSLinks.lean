/-
  Chains of objects, of one size, with others between them.
-/
import Derived.Test.YtgegkcjllliifaaDoorSRing
namespace Go.Proofs.YtgegkcjllliifaaDoor
open Go.RowKit

theorem cntF_pages_but {f : Nat → Bool} {c e : Nat} : ∀ p, (∀ q, q < p → q ≠ e → cntF f (q * 32) + c ≤ cntF f (q * 32 + 32)) → p * c ≤ cntF f (p * 32) + (if e < p then c else 0)
  | 0, _ => by simp
  | p + 1, h => by
    have ih := cntF_pages_but p fun q hq => h q (by omega)
    have hm := cntF_mono (f := f) (a := p * 32) (b := p * 32 + 32) (by omega)
    rw [show (p + 1) * 32 = p * 32 + 32 by omega, show (p + 1) * c = p * c + c by rw [Nat.add_mul, Nat.one_mul]]
    by_cases c1 : p = e
    · rw [if_pos (by omega)]
      rw [if_neg (by omega)] at ih
      omega
    · have := h p (by omega) c1
      by_cases c2 : e < p
      · rw [if_pos c2] at ih
        rw [if_pos (by omega)]
        omega
      · rw [if_neg c2] at ih
        rw [if_neg (by omega)]
        omega

theorem cntF_mem (N : Nat) : ∀ (P : List Nat), P.Nodup → (∀ k, k ∈ P → k < N) → cntF (fun k => decide (k ∈ P)) N = P.length
  | [], _, _ => cntF_zero fun k _ => by simp
  | a :: l, hn, hlt => by
    have hn' := List.nodup_cons.1 hn
    have e : (fun k => decide (k ∈ a :: l)) = upd (fun k => decide (k ∈ l)) a true := by
      funext k
      unfold upd
      by_cases c : k = a
      · simp [c]
      · simp [c]
    rw [e, cntF_upd (hlt a (by simp)) (by simpa using hn'.1), cntF_mem N l hn'.2 fun k hk => hlt k (by simp [hk])]
    rfl
theorem cntF_list {f : Nat → Bool} {N : Nat} {P : List Nat} (hn : P.Nodup) (hlt : ∀ k, k ∈ P → k < N) (hf : ∀ k, f k = true ↔ k ∈ P) : cntF f N = P.length := by
  rw [← cntF_mem N P hn hlt]
  refine cntF_congr fun k _ => ?_
  cases h : f k with
  | true => have := (hf k).1 h; simp [this]
  | false =>
    have : k ∉ P := fun e => by rw [(hf k).2 e] at h; cases h
    simp [this]

/-- Two objects share no word. -/
theorem WF.sep {s : St} (h : WF s) {x y q : Nat} (hx : s.beg x = true) (hy : s.beg y = true) (x1 : x ≤ q) (x2 : (q : Int) < x + s.size (x / 32)) (y1 : y ≤ q) (y2 : (q : Int) < y + s.size (y / 32)) : x = y := by
  have a : s.at (1048576 + 8 * (q : Int)) = some x := (at_iff h).2 ⟨hx, by unfold St.lies; omega⟩
  have b : s.at (1048576 + 8 * (q : Int)) = some y := (at_iff h).2 ⟨hy, by unfold St.lies; omega⟩
  rw [a] at b
  exact Option.some.inj b

def FullP (s : St) (sz p : Nat) : Prop := ∀ j, j * sz + sz ≤ 32 → s.beg (p * 32 + j * sz) = true
/-- Objects of one size, of both kinds; of each kind one page at the most has a place free. -/
structure Two (sz : Nat) (s : St) (Q : List Nat) : Prop where
  n : s.n = 48
  wf : WF s
  beg : ∀ k, s.beg k = true ↔ k ∈ Q
  cnt : cntF s.beg 1536 = Q.length
  page : ∀ p, p < 48 → s.size p = 0 ∨ s.size p = sz
  use : ∀ p, p < 48 → s.size p = sz → s.held p = true
  blk : ∀ p, s.blk p = false
  one : ∀ p q, p < 48 → q < 48 → s.size p = sz → s.size q = sz → s.atom p = s.atom q → ¬ FullP s sz p → ¬ FullP s sz q → p = q

theorem Two.sizes {sz : Nat} {s : St} {Q : List Nat} (h : Two sz s Q) {k : Nat} (hk : k ∈ Q) : s.size (k / 32) = sz ∧ k / 32 < 48 ∧ k < 1536 := by
  obtain ⟨b1, b2, _, _⟩ := h.wf.bg k ((h.beg k).2 hk)
  rw [h.n] at b1
  rcases h.page (k / 32) (by omega) with e | e
  · omega
  · exact ⟨e, by omega, by omega⟩

theorem free_full {s : St} {p sz : Nat} (hz : 1 ≤ sz) (h : freeAt s p sz = none) : FullP s sz p := fun j hj => freeFrom_none hz h (by omega) j (by omega)

theorem Two.room {sz : Nat} {s : St} {Q : List Nat} (h : Two sz s Q) (z1 : 1 ≤ sz) (z2 : sz ≤ 4) (hQ : Q.length < 376) (at' : Bool) : ∃ k, s.place sz at' = some k := by
  cases hp : s.place sz at' with
  | some k => exact ⟨k, rfl⟩
  | none =>
    exfalso
    obtain ⟨p1, p2⟩ := place_none z1 hp
    have hall : ∀ q, q < 48 → s.held q = true ∧ s.size q = sz := by
      intro q hq
      obtain ⟨j, j1, j2⟩ := p2 q (by rw [h.n]; omega)
      obtain rfl : j = 0 := by omega
      have hheld : s.held q = true := by
        unfold St.free at j2
        rw [Nat.add_zero, h.blk q] at j2
        simpa using j2
      refine ⟨hheld, ?_⟩
      rcases h.page q hq with e | e
      · exfalso
        have hb := h.wf.sm q (by rw [h.n]; exact hq) (by omega)
        unfold St.held at hheld
        rw [hb, any_iff] at hheld
        obtain ⟨k, k1, k2, k3⟩ := hheld
        have := (h.wf.bg k k3).2.1
        rw [show k / 32 = q by simp at k1 k2; omega] at this
        omega
      · exact e
    have hown : ∀ q, q < 48 → s.atom q = at' → FullP s sz q := by
      intro q hq ha
      have hsh := p1 (by omega) q (by rw [h.n]; exact hq)
      unfold St.share at hsh
      rw [if_pos ⟨(hall q hq).2, ha, (hall q hq).1⟩] at hsh
      exact free_full z1 hsh
    obtain ⟨e, he⟩ : ∃ e, ∀ q, q < 48 → q ≠ e → FullP s sz q := by
      by_cases hx : ∃ e, e < 48 ∧ ¬ FullP s sz e
      · obtain ⟨e, e1, e2⟩ := hx
        refine ⟨e, fun q hq hne => Classical.byContradiction fun hnf => hne ?_⟩
        have a1 : s.atom q ≠ at' := fun ha => hnf (hown q hq ha)
        have a2 : s.atom e ≠ at' := fun ha => e2 (hown e e1 ha)
        refine h.one q e hq e1 (hall q hq).2 (hall e e1).2 ?_ hnf e2
        cases h1 : s.atom q <;> cases h2 : s.atom e <;> simp_all
      · exact ⟨0, fun q hq _ => Classical.byContradiction fun hnf => hx ⟨q, hq, hnf⟩⟩
    have key : ∀ q, q < 48 → q ≠ e → cntF s.beg (q * 32) + 8 ≤ cntF s.beg (q * 32 + 32) := by
      intro q hq hne
      have hf := he q hq hne
      have h1 := cntF_stride (f := s.beg) (m := q * 32) z1 8 fun j hj => hf j (by
        have : j * sz ≤ 7 * sz := Nat.mul_le_mul_right _ (by omega)
        omega)
      have h2 := cntF_mono (f := s.beg) (a := q * 32 + 8 * sz) (b := q * 32 + 32) (by omega)
      omega
    have := cntF_pages_but (f := s.beg) (c := 8) (e := e) 48 key
    rw [show 48 * 32 = 1536 from rfl, h.cnt] at this
    split at this <;> omega

theorem Two.lay {sz k : Nat} {at' : Bool} {s t : St} {Q : List Nat} (h : Two sz s Q) (z1 : 1 ≤ sz) (z2 : sz ≤ 4) (hp : s.place sz at' = some k) (l : LaidTo s k sz at' t) : Two sz t (Q ++ [k]) := by
  have hc : (sz + 31) / 32 = 1 := by omega
  have hlt := l.lt
  rw [h.n] at hlt
  have hk48 : k / 32 < 48 := by omega
  obtain ⟨n1, n2, n3, n4⟩ := l.run (k / 32) (Nat.le_refl _) (by omega)
  have hpg : ∀ q, q < 48 → q ≠ k / 32 → t.size q = s.size q ∧ (s.size q = sz → t.atom q = s.atom q ∧ t.back q = s.back q) := by
    intro q hq hne
    rcases l.page q (by omega) with ⟨a, b, c, _⟩ | ⟨a, _, c⟩
    · exact ⟨a, fun _ => ⟨b, c⟩⟩
    · rcases h.page q hq with e | e
      · exact ⟨a.trans e.symm, fun e2 => by omega⟩
      · rw [h.use q hq e] at c; cases c
  have hbeg : ∀ j, j ≠ k → t.beg j = s.beg j := fun j hj => by rw [l.beg, upd_other _ _ _ _ hj]
  have hmono : ∀ j, s.beg j = true → t.beg j = true := fun j hj => by
    rw [l.beg]; unfold upd; split
    · rfl
    · exact hj
  have hfull : ∀ q, q ≠ k / 32 → FullP t sz q → FullP s sz q := fun q hq hf j hj => by
    have := hf j hj
    rw [hbeg _ (by omega)] at this
    exact this
  have hfull2 : ∀ q, FullP s sz q → FullP t sz q := fun q hf j hj => hmono _ (hf j hj)
  have hnew : ∀ q, q < 48 → q ≠ k / 32 → s.size q = sz → s.atom q = at' → FullP s sz q := by
    intro q hq hne hs ha
    rcases place_some z1 hp with ⟨p, b⟩ | ⟨_, hsh⟩
    · obtain ⟨i, e1, e2, e3, _⟩ := b.pos
      have ep : k / 32 = p := by omega
      refine Classical.byContradiction fun hnf => hne ?_
      rw [ep]
      refine h.one q p hq (by rw [← h.n]; exact b.lt) hs b.size (ha.trans b.atom.symm) hnf fun hf => ?_
      have := hf i (by omega)
      rw [← e1, e3] at this
      cases this
    · have := hsh (by omega) q (by rw [h.n]; exact hq)
      unfold St.share at this
      rw [if_pos ⟨hs, ha, h.use q hq hs⟩] at this
      exact free_full z1 this
  refine ⟨l.n.trans h.n, l.wf, fun j => ?_, ?_, fun q hq => ?_, fun q hq hs => ?_, fun q => by rw [l.blk]; exact h.blk q, fun p q hp48 hq48 hsp hsq hat hfp hfq => ?_⟩
  · rw [List.mem_append, List.mem_singleton, ← h.beg j]
    by_cases e : j = k
    · rw [e, l.begNew]; simp
    · rw [hbeg j e]; simp [e]
  · rw [l.beg, cntF_upd (by omega) l.was, h.cnt]
    simp
  · by_cases e : q = k / 32
    · rw [e]; exact .inr n1
    · rw [(hpg q hq e).1]; exact h.page q hq
  · by_cases e : q = k / 32
    · rw [e]
      have hb := l.wf.sm (k / 32) (by rw [l.n, h.n]; exact hk48) (by omega)
      unfold St.held
      rw [hb, any_iff]
      exact ⟨k, by simp; omega, by simp; omega, l.begNew⟩
    · obtain ⟨a, b⟩ := hpg q hq e
      rw [a] at hs
      have := h.use q hq hs
      unfold St.held at this ⊢
      rw [any_iff] at this ⊢
      obtain ⟨j, j1, j2, j3⟩ := this
      rw [(b hs).2]
      exact ⟨j, j1, j2, hmono j j3⟩
  · by_cases e1 : p = k / 32
    · by_cases e2 : q = k / 32
      · rw [e1, e2]
      · exfalso
        obtain ⟨a, b⟩ := hpg q hq48 e2
        rw [a] at hsq
        have ha : s.atom q = at' := by rw [← (b hsq).1, ← hat, e1]; exact n2
        exact hfq (hfull2 q (hnew q hq48 e2 hsq ha))
    · by_cases e2 : q = k / 32
      · exfalso
        obtain ⟨a, b⟩ := hpg p hp48 e1
        rw [a] at hsp
        have ha : s.atom p = at' := by rw [← (b hsp).1, hat, e2]; exact n2
        exact hfp (hfull2 p (hnew p hp48 e1 hsp ha))
      · obtain ⟨a, b⟩ := hpg p hp48 e1
        obtain ⟨c, d⟩ := hpg q hq48 e2
        rw [a] at hsp
        rw [c] at hsq
        exact h.one p q hp48 hq48 hsp hsq (by rw [← (b hsp).1, ← (d hsq).1]; exact hat) (fun hf => hfp (hfull2 p hf)) (fun hf => hfq (hfull2 q hf))
theorem Two.setWd {sz : Nat} {s : St} {Q : List Nat} (h : Two sz s Q) (k : Nat) (v : Int) : Two sz (s.setWd k v) Q := ⟨h.n, h.wf.setWd k v, h.beg, h.cnt, h.page, h.use, h.blk, h.one⟩
theorem Two.roots {sz : Nat} {s : St} {Q : List Nat} (h : Two sz s Q) (l : List Int) : Two sz { s with roots := l } Q := ⟨h.n, h.wf.roots l, h.beg, h.cnt, h.page, h.use, h.blk, h.one⟩
theorem Two.at {sz : Nat} {s : St} {Q : List Nat} (h : Two sz s Q) {k : Nat} (hk : k ∈ Q) (x : Int) (x1 : adr k ≤ x) (x2 : x < adr k + 8 * sz) : s.at x = some k := by
  rw [at_iff h.wf]
  refine ⟨(h.beg k).2 hk, ?_⟩
  unfold St.lies
  rw [(h.sizes hk).1]
  unfold adr at x1 x2
  omega
theorem Two.init (sz r : Nat) (hz : 1 ≤ sz) : Two sz (St.init 48 r) [] := by
  refine ⟨rfl, WF.init _ _, fun k => ?_, cntF_zero fun _ _ => rfl, fun p _ => .inl rfl, fun p _ h => ?_, fun _ => rfl, fun p q _ _ h => ?_⟩
  · show false = true ↔ _
    simp
  · have : (0 : Int) = sz := h
    omega
  · have : (0 : Int) = sz := h
    omega

/-- The chain: its cells, in the order in which they were laid. -/
structure Links (sz : Nat) (s : St) (P Q : List Nat) : Prop where
  two : Two sz s Q
  sub : ∀ k, k ∈ P → k ∈ Q ∧ s.atom (k / 32) = false
  nd : P.Nodup
  w0 : ∀ j (hj : j < P.length), s.word (P[j]) = lastA (P.take j)
  w1 : ∀ j (hj : j < P.length), s.word (P[j] + 1) = j
  wi : ∀ j (hj : j < P.length) (i : Nat), 2 ≤ i → i < sz → s.word (P[j] + i) = 0
  colls : s.colls = 0

theorem Links.step {sz a g : Nat} {kd : Bool} {s t1 t2 : St} {P Q : List Nat} (h : Links sz s P Q) (z1 : 2 ≤ sz) (z2 : sz ≤ 4) (ha : s.place sz false = some a) (l1 : LaidTo s a sz false t1) (hg : t1.place sz kd = some g) (l2 : LaidTo t1 g sz kd t2) :
    Links sz (((t2.setWd a (lastA P)).setWd (a + 1) P.length).setWd g (adr a)) (P ++ [a]) (Q ++ [a] ++ [g]) ∧ Two sz t2 (Q ++ [a] ++ [g]) := by
  have T1 := h.two.lay (by omega) z2 ha l1
  have T2 := T1.lay (by omega) z2 hg l2
  have hmem : ∀ k, k ∈ P → k ∈ Q ++ [a] ++ [g] := fun k hk => by simp [(h.sub k hk).1]
  have hga : a ≠ g := fun e => by
    have := l2.was
    rw [← e, l1.begNew] at this
    cases this
  have haP : a ∉ P := fun e => by
    have := l1.was
    rw [(h.two.beg a).2 (h.sub a e).1] at this
    cases this
  have hgP : g ∉ P := fun e => by
    have := l2.was
    rw [(T1.beg g).2 (by simp [(h.sub g e).1])] at this
    cases this
  have sep : ∀ x y i j, x ∈ Q ++ [a] ++ [g] → y ∈ Q ++ [a] ++ [g] → x ≠ y → i < sz → j < sz → x + i ≠ y + j := by
    intro x y i j hx hy hne hi hj e
    refine hne (T2.wf.sep (q := x + i) ((T2.beg x).2 hx) ((T2.beg y).2 hy) (by omega) ?_ (by omega) ?_)
    · rw [(T2.sizes hx).1]; omega
    · rw [(T2.sizes hy).1]; omega
  have hma : a ∈ Q ++ [a] ++ [g] := by simp
  have hmg : g ∈ Q ++ [a] ++ [g] := by simp
  have hw : ∀ q, (((t2.setWd a (lastA P)).setWd (a + 1) P.length).setWd g (adr a)).word q = if q = g then adr a else if q = a + 1 then (P.length : Int) else if q = a then lastA P else if g ≤ q ∧ q < g + sz then 0 else if a ≤ q ∧ q < a + sz then 0 else s.word q := by
    intro q
    show upd (upd (upd t2.word a (lastA P)) (a + 1) P.length) g (adr a) q = _
    unfold upd
    rw [l2.word, l1.word]
  have hold : ∀ x i, x ∈ P → i < sz → (((t2.setWd a (lastA P)).setWd (a + 1) P.length).setWd g (adr a)).word (x + i) = s.word (x + i) := by
    intro x i hx hi
    have hxa : x ≠ a := fun e => haP (e ▸ hx)
    have hxg : x ≠ g := fun e => hgP (e ▸ hx)
    have c1 := sep x g i 0 (hmem x hx) hmg hxg hi (by omega)
    have c2 := sep x a i 1 (hmem x hx) hma hxa hi (by omega)
    have c3 := sep x a i 0 (hmem x hx) hma hxa hi (by omega)
    rw [hw, if_neg (by omega), if_neg (by omega), if_neg (by omega), if_neg, if_neg]
    · rintro ⟨d1, d2⟩
      exact sep x a i (x + i - a) (hmem x hx) hma hxa hi (by omega) (by omega)
    · rintro ⟨d1, d2⟩
      exact sep x g i (x + i - g) (hmem x hx) hmg hxg hi (by omega) (by omega)
  refine ⟨⟨((T2.setWd _ _).setWd _ _).setWd _ _, fun k hk => ?_, ?_, fun j hj => ?_, fun j hj => ?_, fun j hj i i1 i2 => ?_, ?_⟩, T2⟩
  · rw [List.mem_append, List.mem_singleton] at hk
    show k ∈ Q ++ [a] ++ [g] ∧ t2.atom (k / 32) = false
    rcases hk with hk | rfl
    · refine ⟨hmem k hk, ?_⟩
      have a1 := (l2.old k ((T1.beg k).2 (by simp [(h.sub k hk).1]))).2
      have a2 := (l1.old k ((h.two.beg k).2 (h.sub k hk).1)).2
      rw [a1, a2]
      exact (h.sub k hk).2
    · refine ⟨hma, ?_⟩
      rw [(l2.old k l1.begNew).2]
      exact (l1.sizeNew (by omega)).2
  · rw [List.nodup_append]
    exact ⟨h.nd, by simp, fun x hx y hy e => by simp at hy; rw [hy] at e; exact haP (e ▸ hx)⟩
  · by_cases e : j < P.length
    · rw [List.getElem_append_left e, List.take_append_of_le_length (by omega)]
      exact Eq.trans (hold (P[j]) 0 (List.getElem_mem e) (by omega)) (h.w0 j e)
    · have e2 : j = P.length := by simp at hj; omega
      subst e2
      rw [List.getElem_append_right (by omega), List.take_left]
      simp only [Nat.sub_self, List.getElem_singleton]
      rw [hw, if_neg hga, if_neg (by omega), if_pos rfl]
  · by_cases e : j < P.length
    · rw [List.getElem_append_left e, hold (P[j]) 1 (List.getElem_mem e) (by omega)]
      exact h.w1 j e
    · have e2 : j = P.length := by simp at hj; omega
      subst e2
      rw [List.getElem_append_right (by omega)]
      simp only [Nat.sub_self, List.getElem_singleton]
      have := sep a g 1 0 hma hmg hga (by omega) (by omega)
      rw [hw, if_neg (by omega), if_pos rfl]
  · by_cases e : j < P.length
    · rw [List.getElem_append_left e, hold (P[j]) i (List.getElem_mem e) i2]
      exact h.wi j e i i1 i2
    · have e2 : j = P.length := by simp at hj; omega
      subst e2
      rw [List.getElem_append_right (by omega)]
      simp only [Nat.sub_self, List.getElem_singleton]
      have := sep a g i 0 hma hmg hga i2 (by omega)
      rw [hw, if_neg (by omega), if_neg (by omega), if_neg (by omega)]
      split
      · rfl
      · rw [if_pos (by omega)]
  · show t2.colls = 0
    rw [l2.colls, l1.colls]; exact h.colls
theorem Links.roots {sz : Nat} {s : St} {P Q : List Nat} (h : Links sz s P Q) (l : List Int) : Links sz { s with roots := l } P Q := ⟨h.two.roots l, h.sub, h.nd, h.w0, h.w1, h.wi, h.colls⟩
theorem Links.init (sz r : Nat) (hz : 1 ≤ sz) : Links sz (St.init 48 r) [] [] := ⟨Two.init sz r hz, fun k hk => (by cases hk), List.nodup_nil, fun j hj => absurd hj (by simp), fun j hj => absurd hj (by simp), fun j hj => absurd hj (by simp), rfl⟩

theorem lastA_take {P : List Nat} (j : Nat) (hj : j < P.length) : lastA (P.take (j + 1)) = adr (P[j]) := by
  rw [lastA_at j (by simp; omega)]
  simp
/-- A root in the last cell: the chain is what is reached. -/
theorem Links.reach {sz : Nat} {s : St} {P Q : List Nat} (h : Links sz s P Q) (z1 : 2 ≤ sz) (hP : 0 < P.length) (hr : s.roots = [lastA P + 8]) (hlen : P.length ≤ 1000) (k : Nat) : s.Reach k ↔ k ∈ P := by
  have hat : ∀ j (hj : j < P.length) (i : Int), 0 ≤ i → i < 8 * sz → s.at (adr (P[j]) + i) = some (P[j]) := fun j hj i i1 i2 => h.two.at (h.sub _ (List.getElem_mem hj)).1 _ (by omega) (by omega)
  have hlast : lastA P = adr (P[P.length - 1]'(by omega)) := lastA_at (P.length - 1) (by omega)
  constructor
  · intro hk
    induction hk with
    | root h1 h2 =>
      rw [hr] at h1
      have e := List.mem_singleton.1 h1
      rw [e, hlast, hat _ (by omega) 8 (by omega) (by omega)] at h2
      rw [← Option.some.inj h2]
      exact List.getElem_mem _
    | word h1 h2 h3 h4 ih =>
      rename_i x y i
      obtain ⟨j, hj, rfl⟩ := List.getElem_of_mem ih
      have hsz := (h.two.sizes (h.sub _ ih).1).1
      rw [hsz] at h3
      have hi : i < sz := by simpa using h3
      by_cases c0 : i = 0
      · subst c0
        rw [Nat.add_zero, h.w0 j hj] at h4
        cases j with
        | zero => rw [show lastA (P.take 0) = 0 from rfl, at_zero] at h4; cases h4
        | succ j =>
          rw [lastA_take j (by omega)] at h4
          have := hat j (by omega) 0 (by omega) (by omega)
          rw [Int.add_zero] at this
          rw [this] at h4
          rw [← Option.some.inj h4]
          exact List.getElem_mem _
      · by_cases c1 : i = 1
        · subst c1
          rw [h.w1 j hj] at h4
          unfold St.at at h4
          rw [if_neg (by omega)] at h4
          cases h4
        · rw [h.wi j hj i (by omega) hi, at_zero] at h4
          cases h4
  · intro hk
    have key : ∀ d (hd : d < P.length), s.Reach (P[P.length - 1 - d]'(by omega)) := by
      intro d
      induction d with
      | zero =>
        intro hd
        refine .root (x := lastA P + 8) (by rw [hr]; exact List.mem_singleton.2 rfl) ?_
        rw [hlast]
        exact hat _ (by omega) 8 (by omega) (by omega)
      | succ d ih =>
        intro hd
        have r1 := ih (by omega)
        have hm : P[P.length - 1 - d]'(by omega) ∈ P := List.getElem_mem _
        refine .word (i := 0) r1 (h.sub _ hm).2 (by rw [(h.two.sizes (h.sub _ hm).1).1]; simp; omega) ?_
        rw [Nat.add_zero, h.w0 _ (by omega)]
        have e : P.length - 1 - d = P.length - 1 - (d + 1) + 1 := by omega
        rw [show P.take (P.length - 1 - d) = P.take (P.length - 1 - (d + 1) + 1) by rw [e], lastA_take _ (by omega)]
        have := hat (P.length - 1 - (d + 1)) (by omega) 0 (by omega) (by omega)
        rw [Int.add_zero] at this
        exact this
    obtain ⟨i, hi, rfl⟩ := List.getElem_of_mem hk
    have := key (P.length - 1 - i) (by omega)
    have e : P.length - 1 - (P.length - 1 - i) = i := by omega
    simp only [e] at this
    exact this
end Go.Proofs.YtgegkcjllliifaaDoor
