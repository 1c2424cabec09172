/-
  A heap filled with objects of one size: how many there are, and where the next one lies.
-/
import Derived.Test.YtgegkcjllliifabDoorHStk
namespace Go.Proofs.YtgegkcjllliifabDoor
open Go.RowKit

theorem size_set {n : Nat} {sz : Nat} (h : sizeOf' n = sz) (c : sz ≤ 16) : sz = 1 ∨ sz = 2 ∨ sz = 3 ∨ sz = 4 ∨ sz = 6 ∨ sz = 8 ∨ sz = 12 ∨ sz = 16 := by
  unfold sizeOf' at h
  omega

/-- At most so many begin on a page. -/
theorem cntF_page {f : Nat → Bool} {m sz : Nat} (hz : sz = 1 ∨ sz = 2 ∨ sz = 3 ∨ sz = 4 ∨ sz = 6 ∨ sz = 8 ∨ sz = 12 ∨ sz = 16) (hf : ∀ j, j < 32 → f (m + j) = true → j % sz = 0 ∧ j + sz ≤ 32) : ∀ j, j ≤ 32 → cntF f (m + j) ≤ cntF f m + (if j + sz ≤ 32 then (j + sz - 1) / sz else 32 / sz)
  | 0, _ => by simp
  | j + 1, hj => by
    have ih := cntF_page hz hf j (by omega)
    show cntF f (m + j) + _ ≤ _
    cases hb : f (m + j) with
    | false =>
      simp only [Bool.false_eq_true, if_false, Nat.add_zero]
      refine Nat.le_trans ih (Nat.add_le_add_left ?_ _)
      rcases hz with rfl | rfl | rfl | rfl | rfl | rfl | rfl | rfl <;> (split <;> split <;> omega)
    | true =>
      obtain ⟨h1, h2⟩ := hf j (by omega) hb
      simp only [if_true]
      rw [if_pos h2] at ih
      rcases hz with rfl | rfl | rfl | rfl | rfl | rfl | rfl | rfl <;> (split <;> omega)
theorem cntF_upto {f : Nat → Bool} {c : Nat} : ∀ p, (∀ q, q < p → cntF f (q * 32 + 32) ≤ cntF f (q * 32) + c) → cntF f (p * 32) ≤ p * c
  | 0, _ => by simp [cntF]
  | p + 1, h => by
    have ih := cntF_upto p fun q hq => h q (by omega)
    have := h p (by omega)
    rw [show (p + 1) * 32 = p * 32 + 32 by omega, show (p + 1) * c = p * c + c by rw [Nat.add_mul, Nat.one_mul]]
    omega

/-- All pages of a great object hold it. -/
theorem run_held {t : St} (wf : WF t) {k : Nat} (hk : t.beg k = true) (hz : 16 < t.size (k / 32)) (i : Nat) (hi : (i : Int) < t.size (k / 32) / 32) : t.held (k / 32 + i) = true := by
  obtain ⟨b1, b2, b3, b4⟩ := wf.bg k hk
  have hp : k / 32 < t.n := by omega
  have hb := (b4 hz).1
  obtain ⟨g1, g2, g3, g4⟩ := wf.gr _ hp hz i hi
  rw [hb] at g1 g2 g3 g4
  simp only [Int.toNat_zero, Nat.sub_zero] at g1 g2 g3 g4
  unfold St.held
  rw [g4, any_iff]
  exact ⟨k, by simp; omega, by simp; omega, hk⟩
/-- A page that holds something is a page of an object. -/
theorem held_obj {t : St} (wf : WF t) {p : Nat} (hp : p < t.n) (h : t.held p = true) : ∃ k, t.beg k = true ∧ k / 32 ≤ p ∧ (t.size (k / 32) ≤ 16 → k / 32 = p) ∧ (16 < t.size (k / 32) → (p : Int) < k / 32 + t.size (k / 32) / 32) ∧ t.size p = t.size (k / 32) ∧ t.atom p = t.atom (k / 32) := by
  unfold St.held at h
  rw [any_iff] at h
  obtain ⟨k, k1, k2, k3⟩ := h
  have ek : k / 32 = p - (t.back p).toNat := by omega
  by_cases c : t.size p ≤ 16
  · have hb := wf.sm p hp c
    rw [hb] at ek
    simp only [Int.toNat_zero, Nat.sub_zero] at ek
    exact ⟨k, k3, by omega, fun _ => by omega, fun x => by rw [ek] at x; omega, by rw [ek], by rw [ek]⟩
  · have gb := wf.gb p hp (by omega)
    obtain ⟨g1, g2, g3, g4⟩ := wf.gr p hp (by omega) 0 (by omega)
    rw [Nat.add_zero, ← ek] at g2 g3
    refine ⟨k, k3, by omega, fun x => by omega, fun _ => by rw [g2]; omega, g2.symm, g3.symm⟩

/-- Objects of small size: the heap is full. -/
theorem Stk.small {n sz : Nat} {s : St} {P : List Nat} (h : Stk n sz s P) (hz : sz = 1 ∨ sz = 2 ∨ sz = 3 ∨ sz = 4 ∨ sz = 6 ∨ sz = 8 ∨ sz = 12 ∨ sz = 16) (hb : ∀ p, s.blk p = false) (hp : s.place sz false = none) : (∀ q j, q < n → j * sz + sz ≤ 32 → s.beg (q * 32 + j * sz) = true) ∧ P.length = n * (32 / sz) := by
  have z1 : 1 ≤ sz := by omega
  have z16 : sz ≤ 16 := by omega
  obtain ⟨p1, p2⟩ := place_none z1 hp
  have hall : ∀ q j, q < n → j * sz + sz ≤ 32 → s.beg (q * 32 + j * sz) = true := by
    intro q j hq hj
    obtain ⟨i, i1, i2⟩ := p2 q (by rw [h.sn]; omega)
    obtain rfl : i = 0 := by omega
    have hheld : s.held q = true := by
      unfold St.free at i2
      rw [Nat.add_zero, hb q] at i2
      simpa using i2
    obtain ⟨k, k1, k2, k3, k4, k5, k6⟩ := held_obj h.wf (by rw [h.sn]; exact hq) hheld
    have hsz := h.size k ((h.beg k).1 k1)
    rw [hsz.1] at k5
    rw [hsz.2] at k6
    have hsh := p1 z16 q (by rw [h.sn]; exact hq)
    unfold St.share at hsh
    rw [if_pos ⟨k5, k6, hheld⟩] at hsh
    exact freeFrom_none z1 hsh (by omega) j (by omega)
  refine ⟨hall, ?_⟩
  have lo : n * (32 / sz) ≤ cntF s.beg (n * 32) := by
    refine cntF_pages n fun q hq => ?_
    have h1 := cntF_stride (f := s.beg) (m := q * 32) z1 (32 / sz) fun j hj => hall q j hq (by
      have : (j + 1) * sz ≤ 32 / sz * sz := Nat.mul_le_mul_right _ (by omega)
      have := Nat.div_mul_le_self 32 sz
      rw [Nat.add_mul, Nat.one_mul] at *
      omega)
    have h2 := cntF_mono (f := s.beg) (a := q * 32 + 32 / sz * sz) (b := q * 32 + 32) (by have := Nat.div_mul_le_self 32 sz; omega)
    omega
  have up : cntF s.beg (n * 32) ≤ n * (32 / sz) := by
    refine cntF_upto n fun q hq => ?_
    have := cntF_page (f := s.beg) (m := q * 32) hz (fun j hj hbj => by
      obtain ⟨b1, b2, b3, b4⟩ := h.wf.bg _ hbj
      have hsz := (h.size _ ((h.beg _).1 hbj)).1
      rw [hsz] at b3
      have := b3 (by omega)
      rw [show (q * 32 + j) % 32 = j by omega] at this
      simpa using this) 32 (by omega)
    rw [if_neg (by omega)] at this
    exact this
  have := h.cnt
  omega

/-- Great objects, side by side from the first page on. -/
structure Side (c : Nat) (P : List Nat) : Prop where
  pos : ∀ j (hj : j < P.length), P[j] = j * c * 32
theorem Stk.heldIff {n sz c : Nat} {s : St} {P : List Nat} (h : Stk n sz s P) (hc : sz = c * 32) (c1 : 1 ≤ c) (hs : Side c P) (p : Nat) (hp : p < n) : s.held p = true ↔ p < P.length * c := by
  constructor
  · intro hh
    obtain ⟨k, k1, k2, k3, k4, k5, k6⟩ := held_obj h.wf (by rw [h.sn]; exact hp) hh
    have hm := (h.beg k).1 k1
    have hz := (h.size k hm).1
    rw [hz] at k4
    have := k4 (by omega)
    obtain ⟨j, hj, e⟩ := List.getElem_of_mem hm
    rw [hs.pos j hj] at e
    have h1 : (j + 1) * c ≤ P.length * c := Nat.mul_le_mul_right _ (by omega)
    rw [Nat.add_mul, Nat.one_mul] at h1
    have h2 : k / 32 = j * c := by omega
    rw [hc] at this
    omega
  · intro hl
    have hj : p / c < P.length := Nat.div_lt_of_lt_mul (by rw [Nat.mul_comm]; exact hl)
    have hm := List.getElem_mem hj
    have hb := (h.beg _).2 hm
    have hz := (h.size _ hm).1
    rw [hs.pos _ hj] at hb hz
    have e1 : p / c * c * 32 / 32 = p / c * c := by omega
    have hr := run_held h.wf hb (by rw [hz]; omega) (p % c) (by rw [hz, hc]; have := Nat.mod_lt p (show 0 < c by omega); omega)
    rw [e1] at hr
    have e2 : p / c * c + p % c = p := by rw [Nat.mul_comm]; exact Nat.div_add_mod p c
    rw [e2] at hr
    exact hr
theorem Stk.great {n sz c : Nat} {s : St} {P : List Nat} (h : Stk n sz s P) (hc : sz = c * 32) (c1 : 1 ≤ c) (hs : Side c P) (hle : P.length * c ≤ n) (hb : ∀ p, s.blk p = false) (hp : s.place sz false = none) : P.length = n / c := by
  have := (place_none (by omega) hp).2 (P.length * c)
  have ec : (sz + 31) / 32 = c := by omega
  rw [ec] at this
  have hlt : n < (P.length + 1) * c := by
    rw [Nat.add_mul, Nat.one_mul]
    apply Nat.lt_of_not_le
    intro hle2
    obtain ⟨j, j1, j2⟩ := this (by rw [h.sn]; exact hle2)
    unfold St.free at j2
    rw [hb] at j2
    have hh : s.held (P.length * c + j) = true := by simpa using j2
    have := (h.heldIff hc c1 hs _ (by omega)).1 hh
    omega
  have h1 : P.length ≤ n / c := (Nat.le_div_iff_mul_le (by omega)).2 hle
  have h2 : n / c < P.length + 1 := (Nat.div_lt_iff_lt_mul (by omega)).2 hlt
  omega
theorem Stk.next {n sz c k : Nat} {s : St} {P : List Nat} (h : Stk n sz s P) (hc : sz = c * 32) (c1 : 1 ≤ c) (hs : Side c P) (hb : ∀ p, s.blk p = false) (hp : s.place sz false = some k) : k = P.length * c * 32 ∧ (P.length + 1) * c ≤ n := by
  obtain ⟨F, a, lo⟩ := place_low (by omega) hp (fun x => by omega)
  have ec : (sz + 31) / 32 = c := by omega
  have ale := a.le
  have af := a.free
  rw [ec] at lo ale af
  rw [h.sn] at ale
  have e : F = P.length * c := by
    rcases Nat.lt_trichotomy F (P.length * c) with x | x | x
    · exfalso
      have := free_held (af 0 (by omega))
      rw [Nat.add_zero, (h.heldIff hc c1 hs F (by omega)).2 x] at this
      cases this
    · exact x
    · exfalso
      obtain ⟨j, j1, j2⟩ := lo _ x
      unfold St.free at j2
      rw [hb] at j2
      have hh : s.held (P.length * c + j) = true := by simpa using j2
      have := (h.heldIff hc c1 hs _ (by omega)).1 hh
      omega
  refine ⟨by rw [a.pos, e], ?_⟩
  rw [Nat.add_mul, Nat.one_mul, ← e]
  exact ale
theorem Side.add {c : Nat} {P : List Nat} (h : Side c P) : Side c (P ++ [P.length * c * 32]) := by
  refine ⟨fun j hj => ?_⟩
  by_cases e : j < P.length
  · rw [List.getElem_append_left e]; exact h.pos j e
  · have : j = P.length := by simp at hj; omega
    subst this
    rw [List.getElem_append_right (by omega)]
    simp

/-- One object goes: there is room. -/
theorem drop_room {n sz k : Nat} {s t : St} {P : List Nat} (h : Stk n sz s P) (z1 : 1 ≤ sz) (zg : 16 < sz → sz % 32 = 0) (hb : ∀ p, s.blk p = false) (hk : k ∈ P) (d : DropTo s k t) : t.place sz false ≠ none := by
  intro hp
  obtain ⟨p1, p2⟩ := place_none z1 hp
  have hsz := h.size k hk
  have hbeg := (h.beg k).2 hk
  obtain ⟨b1, b2, b3, b4⟩ := h.wf.bg k hbeg
  rw [hsz.1] at b2 b3 b4
  have hfit := h.wf.fit hbeg
  unfold St.Fit at hfit
  rw [hsz.1] at hfit
  have hn : t.n = n := d.n.trans h.sn
  have hbt : ∀ p, t.blk p = false := fun p => by rw [d.blk]; exact hb p
  have hle : k / 32 + (sz + 31) / 32 ≤ t.n := by
    rw [hn, ← h.sn]
    have := hfit.2.2.2
    by_cases c : sz ≤ 16
    · omega
    · have := (b4 (by omega)).2
      have := zg (by omega)
      omega
  obtain ⟨j, j1, j2⟩ := p2 (k / 32) hle
  unfold St.free at j2
  rw [hbt] at j2
  have hheld : t.held (k / 32 + j) = true := by simpa using j2
  obtain ⟨q, q1, q2, q3, q4, q5, q6⟩ := held_obj d.wf (by omega) hheld
  have hqb := q1
  rw [d.beg] at hqb
  have hqk : q ≠ k := fun e => by rw [e, upd_same] at hqb; cases hqb
  rw [upd_other _ _ _ _ hqk] at hqb
  have hqs := h.size q ((h.beg q).1 hqb)
  have hqd : t.size (q / 32) = s.size (q / 32) ∧ t.atom (q / 32) = s.atom (q / 32) := by
    rcases d.page (q / 32) (by have := (h.wf.bg q hqb).1; omega) with ⟨a, b, _⟩ | ⟨a, _⟩
    · exact ⟨a, b⟩
    · have := (d.wf.bg q q1).2.1; omega
  rw [hqd.1, hqs.1] at q3 q4 q5
  rw [hqd.2, hqs.2] at q6
  by_cases c : sz ≤ 16
  · have e0 : j = 0 := by omega
    subst e0
    rw [Nat.add_zero] at hheld q5 q6
    have hsh := p1 c (k / 32) (by omega)
    unfold St.share at hsh
    rw [if_pos ⟨q5, q6, hheld⟩] at hsh
    have h3 := b3 (by omega)
    simp only [Int.toNat_natCast] at h3
    have hd := Nat.div_add_mod (k % 32) sz
    rw [h3.1, Nat.add_zero, Nat.mul_comm] at hd
    have := freeFrom_none z1 hsh (by omega) (k % 32 / sz) (by omega)
    rw [hd, show k / 32 * 32 + k % 32 = k by omega, d.beg, upd_same] at this
    cases this
  · -- two great objects would overlap
    have m1 := (b4 (by omega)).2
    have hq4 := q4 (by omega)
    have qb := (h.wf.bg q hqb).2.2.2 (by rw [hqs.1]; omega)
    have a1 : s.at (1048576 + 256 * ((k / 32 + j : Nat) : Int)) = some k := by
      rw [at_iff h.wf]
      refine ⟨hbeg, ?_⟩
      unfold St.lies
      rw [hsz.1]
      have := zg (by omega)
      omega
    have a2 : s.at (1048576 + 256 * ((k / 32 + j : Nat) : Int)) = some q := by
      rw [at_iff h.wf]
      refine ⟨hqb, ?_⟩
      unfold St.lies
      rw [hqs.1]
      have := zg (by omega)
      have := qb.2
      omega
    rw [a1] at a2
    cases a2
    exact hqk rfl

/-- In a heap that is full the room that one object leaves is the only one. -/
theorem drop_small {n sz k k' : Nat} {s t : St} {P : List Nat} (h : Stk n sz s P) (hz : sz = 1 ∨ sz = 2 ∨ sz = 3 ∨ sz = 4 ∨ sz = 6 ∨ sz = 8 ∨ sz = 12 ∨ sz = 16) (hall : ∀ q j, q < n → j * sz + sz ≤ 32 → s.beg (q * 32 + j * sz) = true) (d : DropTo s k t) (hp : t.place sz false = some k') : k' = k := by
  have z1 : 1 ≤ sz := by omega
  have z16 : sz ≤ 16 := by omega
  have hn : t.n = n := d.n.trans h.sn
  rcases place_some z1 hp with ⟨p, b⟩ | ⟨⟨F, a⟩, _⟩
  · obtain ⟨i, e1, e2, e3, _⟩ := b.pos
    have hlt := b.lt
    have := hall p i (by omega) e2
    rw [← e1] at this
    rw [d.beg] at e3
    by_cases e : k' = k
    · exact e
    · rw [upd_other _ _ _ _ e, this] at e3
      cases e3
  · exfalso
    have ec : (sz + 31) / 32 = 1 := by omega
    have ale := a.le
    rw [ec] at ale
    have hf := free_held (a.free 0 (by omega))
    rw [Nat.add_zero] at hf
    have h0 := hall F 0 (by omega) (by omega)
    have h1 := hall F 1 (by omega) (by omega)
    rw [Nat.zero_mul, Nat.add_zero] at h0
    rw [Nat.one_mul] at h1
    have hback : t.back F = 0 := by
      refine d.wf.sm F (by omega) ?_
      rcases d.page F (by rw [h.sn]; omega) with ⟨x, _, _⟩ | ⟨x, _⟩
      · rw [x, show F = F * 32 / 32 by omega, (h.size _ ((h.beg _).1 h0)).1]; omega
      · rw [x]; omega
    have hh : t.held F = true := by
      unfold St.held
      rw [hback, any_iff]
      simp only [Int.toNat_zero, Nat.sub_zero]
      by_cases e : F * 32 = k
      · exact ⟨F * 32 + sz, by omega, by omega, by rw [d.beg, upd_other _ _ _ _ (by omega)]; exact h1⟩
      · exact ⟨F * 32, by omega, by omega, by rw [d.beg, upd_other _ _ _ _ e]; exact h0⟩
    rw [hh] at hf
    cases hf
theorem drop_great {n sz c k' j : Nat} {s t : St} {P : List Nat} (h : Stk n sz s P) (hc : sz = c * 32) (c1 : 1 ≤ c) (hs : Side c P) (hfull : P.length * c = n) (hj : j < P.length) (d : DropTo s (P[j]) t) (hp : t.place sz false = some k') : k' = P[j] := by
  have hn : t.n = n := d.n.trans h.sn
  obtain ⟨F, a, _⟩ := place_low (by omega) hp (fun x => by omega)
  have ec : (sz + 31) / 32 = c := by omega
  have ale := a.le
  have af := a.free
  rw [ec] at ale af
  rw [hn] at ale
  -- every page of another object is held
  have hh : ∀ i (hi : i < P.length) (o : Nat), i ≠ j → o < c → t.held (i * c + o) = true := by
    intro i hi o hij ho
    have hm := List.getElem_mem hi
    have hne : P[i] ≠ P[j] := fun e => hij ((List.getElem_inj h.nd).1 e)
    have hb : t.beg (P[i]) = true := by rw [d.beg, upd_other _ _ _ _ hne]; exact (h.beg _).2 hm
    have hz : t.size (P[i] / 32) = sz := by
      rcases d.page (P[i] / 32) (by have := (h.wf.bg _ ((h.beg _).2 hm)).1; omega) with ⟨x, _, _⟩ | ⟨x, _⟩
      · rw [x]; exact (h.size _ hm).1
      · have := (d.wf.bg _ hb).2.1; omega
    have hr := run_held d.wf hb (by rw [hz]; omega) o (by rw [hz, hc]; omega)
    rw [hs.pos i hi] at hr
    rw [show i * c * 32 / 32 = i * c by omega] at hr
    exact hr
  have hF : F / c = j := by
    by_cases e : F / c = j
    · exact e
    · exfalso
      have hi : F / c < P.length := Nat.div_lt_of_lt_mul (by rw [Nat.mul_comm]; omega)
      have := hh _ hi (F % c) e (Nat.mod_lt _ (by omega))
      rw [show F / c * c + F % c = F by rw [Nat.mul_comm]; exact Nat.div_add_mod F c] at this
      have hf := free_held (af 0 (by omega))
      rw [Nat.add_zero, this] at hf
      cases hf
  have hL : (F + (c - 1)) / c = j := by
    by_cases e : (F + (c - 1)) / c = j
    · exact e
    · exfalso
      have hi : (F + (c - 1)) / c < P.length := Nat.div_lt_of_lt_mul (by rw [Nat.mul_comm]; omega)
      have := hh _ hi ((F + (c - 1)) % c) e (Nat.mod_lt _ (by omega))
      rw [show (F + (c - 1)) / c * c + (F + (c - 1)) % c = F + (c - 1) by rw [Nat.mul_comm]; exact Nat.div_add_mod _ c] at this
      have hf := free_held (af (c - 1) (by omega))
      rw [this] at hf
      cases hf
  have d1 := Nat.div_add_mod F c
  have d2 := Nat.div_add_mod (F + (c - 1)) c
  have m1 := Nat.mod_lt F (show 0 < c by omega)
  have m2 := Nat.mod_lt (F + (c - 1)) (show 0 < c by omega)
  rw [hF] at d1
  rw [hL] at d2
  rw [hs.pos j hj, a.pos, Nat.mul_comm j c]
  congr 1
  omega
end Go.Proofs.YtgegkcjllliifabDoor
