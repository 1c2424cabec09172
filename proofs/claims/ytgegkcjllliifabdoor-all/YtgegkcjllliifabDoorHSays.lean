/-
  What the statements' walks share: a heap that a law has made and holds.
-/
import Derived.Test.YtgegkcjllliifabDoorHAl
namespace Go.Proofs.YtgegkcjllliifabDoor
open Go.RowKit

set_option maxHeartbeats 400000 in
theorem saysPick_any (c : Int) (n : Nat) (w : World) (h1 : -9223372036854775808 ≤ c) (h2 : c ≤ 9223372036854775807) (hn : 1 ≤ n) (hn2 : n ≤ 4611686018427387904) :
    Calls Tryd.prog 10 #[.int .i64 c, .int .i64 n] w fun e w' => e = .returned (.int .i64 (pickN c n)) ∧ w' = w := by
  have hz : ((n : Int) == 0) = false := by simp; omega
  have HP := hide (pickN_eq c n hn)
  by_cases h : c < 0
  · have e := tmod_negn c n h
    have HE := hide e
    clear e
    rw [if_pos h] at HP
    go_enter Tryd.func10, Tryd.ntmps10
    go_wp2
    go_ret
    exact ⟨ret_int (by rw [unhide HP]; first | rfl | exact unhide HE), rfl⟩
  · have h' : 0 ≤ c := by omega
    rw [if_neg h] at HP
    go_enter Tryd.func10, Tryd.ntmps10
    go_wp2
    go_ret
    exact ⟨ret_int (by rw [unhide HP]), rfl⟩

theorem Tab.pos {w : World} (h : Tab w) : 0 < w.heap.size := by
  obtain ⟨t, fr, h⟩ := h
  rcases Nat.eq_zero_or_pos w.heap.size with e | e
  · rw [Array.getElem?_eq_none (by omega)] at h; cases h
  · exact e
theorem Tab.below {w w' : World} (h : Tab w) (hB : Below w.heap.size w w') : Tab w' := by
  have h0 := h.pos
  obtain ⟨t, fr, h⟩ := h
  exact ⟨t, fr, by rw [hB.block 0 h0]; exact h⟩

theorem WF.init (n r : Nat) (t : Nat := 0) : WF (St.init n r t) :=
  ⟨fun _ _ => Int.le_refl _, fun _ _ => (by show (0 : Int) ≤ 1536; omega), fun _ _ _ => rfl, fun _ _ h => absurd h (by show ¬ (16 : Int) < 0; omega), fun _ _ h => absurd h (by show ¬ (16 : Int) < 0; omega), fun _ _ h => absurd h (by show ¬ (16 : Int) < 0; omega), fun _ h => absurd h (by show ¬ (false = true); simp), fun _ _ h => absurd h (by show ¬ (0 : Int) < 0; omega), fun _ _ h => absurd h (by show ¬ (false = true); simp)⟩
theorem init_at (n r : Nat) (x : Int) (t : Nat := 0) : (St.init n r t).at x = none := by
  rw [at_none (WF.init n r t)]
  intro k hk
  exact absurd hk (by show ¬ (false = true); simp)

/-- A heap that was made behind w0, at block hb. -/
structure Hg (w0 w : World) (hb : Nat) (L : HL) (s : St) : Prop where
  e : L.h = hb
  r : Rep w L s
  wf : WF s
  own : ∀ k, k ∈ L.blocks → w0.heap.size ≤ k
  b : Below w0.heap.size w0 w
  t : Tab w0
/-- The same, of a heap that never collects by itself but when it is full. -/
structure Hd (w0 w : World) (hb : Nat) (L : HL) (s : St) : Prop extends Hg w0 w hb L s where
  tz : s.trig = 0
theorem Hg.tab {w0 w : World} {hb : Nat} {L : HL} {s : St} (h : Hg w0 w hb L s) : Tab w := h.t.below h.b
theorem Hd.tab {w0 w : World} {hb : Nat} {L : HL} {s : St} (h : Hd w0 w hb L s) : Tab w := h.t.below h.b
theorem Hg.new {w0 w w' : World} {hb n r t' : Nat} (t : Tab w0) (b : Below w0.heap.size w0 w) (h : IsNew w (St.init n r t') w' hb) : ∃ L, Hg w0 w' hb L (St.init n r t') := by
  obtain ⟨L, e, r, o, b'⟩ := h
  have hs := b.size
  exact ⟨L, e, r, WF.init _ _ _, fun k hk => Nat.le_trans hs (o k hk), b.trans (b'.mono hs), t⟩
theorem Hd.new {w0 w w' : World} {hb n r : Nat} (t : Tab w0) (b : Below w0.heap.size w0 w) (h : IsNew w (St.init n r) w' hb) : ∃ L, Hd w0 w' hb L (St.init n r) := by
  obtain ⟨L, g⟩ := Hg.new t b h
  exact ⟨L, g, rfl⟩
theorem Hg.below {w0 w w' : World} {hb : Nat} {L : HL} {s : St} (h : Hg w0 w hb L s) (hB : Below w.heap.size w w') : Hg w0 w' hb L s :=
  ⟨h.e, h.r.below hB, h.wf, h.own, h.b.trans (hB.mono h.b.size), h.t⟩
theorem Hd.below {w0 w w' : World} {hb : Nat} {L : HL} {s : St} (h : Hd w0 w hb L s) (hB : Below w.heap.size w w') : Hd w0 w' hb L s := ⟨h.toHg.below hB, h.tz⟩
theorem Hg.touch {w0 w w' : World} {hb : Nat} {L : HL} {s s' : St} (h : Hg w0 w hb L s) (r : Rep w' L s') (wf : WF s') (t : Touch L.blocks w w') : Hg w0 w' hb L s' :=
  ⟨h.e, r, wf, h.own, ⟨t.os.trans h.b.os, t.tape.trans h.b.tape, t.output.trans h.b.output, Nat.le_trans h.b.size t.size, fun k hk => (t.block k (Nat.lt_of_lt_of_le hk h.b.size) (fun e => by have := h.own k e; omega)).trans (h.b.block k hk)⟩, h.t⟩
theorem Hd.touch {w0 w w' : World} {hb : Nat} {L : HL} {s s' : St} (h : Hd w0 w hb L s) (r : Rep w' L s') (wf : WF s') (t : Touch L.blocks w w') (tz : s'.trig = s.trig := by rfl) : Hd w0 w' hb L s' := ⟨h.toHg.touch r wf t, tz.trans h.tz⟩
theorem Hg.hst {w0 w w' : World} {hb : Nat} {L : HL} {s s' : St} (h : Hg w0 w hb L s) (k : HSt w L s' w') (wf : WF s') : ∃ L', Hg w0 w' hb L' s' ∧ (∀ k, k ∈ L'.blocks → k ∈ L.blocks ∨ w.heap.size ≤ k) ∧ Touch L.blocks w w' := by
  obtain ⟨L', e', r', i', t'⟩ := k
  have hs := h.b.size
  exact ⟨L', ⟨e'.trans h.e, r', wf, fun k hk => (i' k hk).elim (h.own k) (fun x => Nat.le_trans hs x), ⟨t'.os.trans h.b.os, t'.tape.trans h.b.tape, t'.output.trans h.b.output, Nat.le_trans hs t'.size, fun k hk => (t'.block k (Nat.lt_of_lt_of_le hk hs) (fun e => by have := h.own k e; omega)).trans (h.b.block k hk)⟩, h.t⟩, i', t'⟩
theorem Hd.hst {w0 w w' : World} {hb : Nat} {L : HL} {s s' : St} (h : Hd w0 w hb L s) (k : HSt w L s' w') (wf : WF s') (tz : s'.trig = s.trig := by first | rfl | assumption) : ∃ L', Hd w0 w' hb L' s' ∧ (∀ k, k ∈ L'.blocks → k ∈ L.blocks ∨ w.heap.size ≤ k) ∧ Touch L.blocks w w' := by
  obtain ⟨L', g, i, t⟩ := h.toHg.hst k wf
  exact ⟨L', ⟨g, tz.trans h.tz⟩, i, t⟩

theorem size_bd (n : Nat) (h : 1 ≤ n) : ∃ sz : Nat, sizeOf' n = sz ∧ n ≤ sz ∧ sz ≤ n + 31 ∧ (16 < sz → sz % 32 = 0 ∧ 16 < n) ∧ (n ≤ 16 → sz ≤ 16) := by
  refine ⟨(sizeOf' n).toNat, ?_, ?_, ?_, ?_, ?_⟩ <;> (unfold sizeOf'; omega)

/-- Alloc, whatever comes ahead of it. -/
theorem hg_alloc {w0 w : World} {hb : Nat} {L : HL} {s : St} (h : Hg w0 w hb L s) (hc : s.colls ≤ 4611686018427387904) (n sz : Nat) (at' : Bool) (h1 : 1 ≤ n) (h2 : n ≤ s.n * 32) (hz : sizeOf' n = sz) :
    Calls Tryd.prog 20 #[.pointer (some ⟨hb, 0, none⟩), .int .i64 n, .bool at'] w fun e w' => ∃ t, ((¬ s.due sz ∧ s.place sz at' ≠ none ∧ t = s) ∨ ((s.due sz ∨ s.place sz at' = none) ∧ AheadC s t)) ∧ AllocTo sz at' t w L e w' := by
  obtain ⟨z, e1, e2, e3, e4, e5⟩ := size_bd n h1
  obtain rfl : z = sz := by omega
  have hn := h.r.n2
  have hz2 : z ≤ 1536 := by
    by_cases c : 16 < z
    · have := (e4 c).1; omega
    · omega
  have := hAlloc_any L s n z at' w h.tab h.r h.wf hc h1 h2 hz (by omega) hz2 (fun c => (e4 c).1)
  rw [h.e] at this
  exact this

/-- Nothing is reached, no page is named: whatever lies there gives room. -/
structure Loose (s : St) : Prop where
  roots : ∀ x, x ∈ s.roots → s.at x = none ∧ (x < 1048576 ∨ 1048576 + 256 * (s.n : Int) ≤ x)
  blk : ∀ p, s.blk p = false
theorem Loose.reach {s : St} (h : Loose s) (k : Nat) : ¬ s.Reach k := by
  intro hr
  induction hr with
  | root h1 h2 => rw [(h.roots _ h1).1] at h2; cases h2
  | word h1 h2 h3 h4 ih => exact ih
theorem empty_place {s : St} (hb : ∀ k, s.beg k = false) (hk : ∀ p, s.blk p = false) {sz : Nat} {at' : Bool} (z1 : 1 ≤ sz) (hn : (sz + 31) / 32 ≤ s.n) : s.place sz at' ≠ none := by
  intro hp
  obtain ⟨j, j1, j2⟩ := (place_none z1 hp).2 0 (by omega)
  unfold St.free at j2
  have : s.held (0 + j) = false := any_false fun k _ _ => hb k
  rw [this, hk] at j2
  simp at j2
theorem Loose.ahead {s t : St} (h : Loose s) (ha : AheadC s t) : (∀ k, t.beg k = false) ∧ (∀ p, t.blk p = false) ∧ t.n = s.n ∧ t.roots = s.roots ∧ t.trig = s.trig ∧ t.colls = s.colls + 1 := by
  obtain ⟨stays, black, ag, m, _, _, rfl⟩ := ha.ex
  refine ⟨fun k => ?_, fun p => ?_, rfl, rfl, rfl, rfl⟩
  · show stays k = false
    cases hh : stays k with
    | false => rfl
    | true => exact absurd ((m.stay k).1 hh) (h.reach k)
  · show black p = false
    cases hh : black p with
    | false => rfl
    | true =>
      exfalso
      obtain ⟨y, hy, hin, _, _⟩ := (m.blk p).1 hh
      rcases hy with hy | ⟨j, i, hj, _⟩
      · have h1 := (h.roots y hy).2
        have h2 := hin.1
        have h3 := hin.2
        omega
      · exact h.reach j hj
/-- In a heap in which nothing is held there is always room. -/
theorem hg_loose {w0 w : World} {hb : Nat} {L : HL} {s : St} (h : Hg w0 w hb L s) (lo : Loose s) (hc : s.colls ≤ 4611686018427387904) (n sz : Nat) (at' : Bool) (h1 : 1 ≤ n) (h2 : n ≤ s.n * 32) (hz : sizeOf' n = sz) :
    Calls Tryd.prog 20 #[.pointer (some ⟨hb, 0, none⟩), .int .i64 n, .bool at'] w fun e w' => ∃ (k : Nat) (L' : HL) (t t' : St), e = .returned (.tuple #[.int .i64 (1048576 + (k : Int) * 8), .int .i64 0]) ∧ Hg w0 w' hb L' t' ∧ LaidTo t k sz at' t' ∧ WF t ∧ t.n = s.n ∧ (∀ p, t.blk p = false) ∧ t.roots = s.roots ∧ t.trig = s.trig ∧ t.colls ≤ s.colls + 1 ∧ (t = s ∨ ∀ k, t.beg k = false) := by
  obtain ⟨z, e1, e2, e3, e4, e5⟩ := size_bd n h1
  obtain rfl : z = sz := by omega
  have hpg : (z + 31) / 32 ≤ s.n := by
    have := h.r.n1
    by_cases c : 16 < z
    · have := (e4 c).1; omega
    · omega
  refine (hg_alloc h hc n z at' h1 h2 hz).mono ?_
  rintro e w' ⟨t, ha, hto⟩
  have hp : t.place z at' ≠ none ∧ WF t ∧ t.n = s.n ∧ (∀ p, t.blk p = false) ∧ t.roots = s.roots ∧ t.trig = s.trig ∧ t.colls ≤ s.colls + 1 ∧ (t = s ∨ ∀ k, t.beg k = false) := by
    rcases ha with ⟨_, q, rfl⟩ | ⟨_, q⟩
    · exact ⟨q, h.wf, rfl, lo.blk, rfl, rfl, by omega, .inl rfl⟩
    · obtain ⟨a1, a2, a3, a4, a5, a6⟩ := lo.ahead q
      exact ⟨empty_place a1 a2 (by omega) (by omega), q.wf, a3, a2, a4, a5, by omega, .inr a1⟩
  cases hto with
  | full q => exact absurd q hp.1
  | ok k q he hl hs =>
    obtain ⟨L', g, _, _⟩ := h.hst hs hl.wf
    exact ⟨k, L', t, _, he, g, hl, hp.2⟩

/-- Alloc where there is room. -/
theorem hd_alloc {w0 w : World} {hb : Nat} {L : HL} {s : St} (h : Hd w0 w hb L s) (n sz k : Nat) (at' : Bool) (h1 : 1 ≤ n) (h2 : n ≤ s.n * 32) (hz : sizeOf' n = sz) (hp : s.place sz at' = some k) :
    Calls Tryd.prog 20 #[.pointer (some ⟨hb, 0, none⟩), .int .i64 n, .bool at'] w fun e w' => e = .returned (.tuple #[.int .i64 (1048576 + (k : Int) * 8), .int .i64 0]) ∧ Hd w0 w' hb L (s.laid k sz at') ∧ LaidTo s k sz at' (s.laid k sz at') ∧ Touch L.blocks w w' := by
  obtain ⟨z, e1, e2, e3, e4, e5⟩ := size_bd n h1
  obtain rfl : z = sz := by omega
  have hn := h.r.n2
  have hz2 : z ≤ 1536 := by
    by_cases c : 16 < z
    · have := (e4 c).1; omega
    · omega
  obtain ⟨l1, l2⟩ := place_laid h.wf (by omega) hz2 (fun c => (e4 c).1) hp
  have := hAlloc_still L s n z k at' w h.tab h.r h.wf h1 h2 hz (by omega) hz2 hp l1 (.inl h.tz)
  rw [h.e] at this
  refine this.mono ?_
  rintro e w' ⟨he, r, t⟩
  exact ⟨he, h.touch r l2.wf t l2.trig, l2, t⟩

theorem cntF_one {f : Nat → Bool} {k : Nat} : ∀ {n : Nat}, k < n → (∀ j, f j = true ↔ j = k) → cntF f n = 1
  | 0, h, _ => by omega
  | n + 1, h, hf => by
    unfold cntF
    by_cases e : k = n
    · subst e
      rw [(hf k).2 rfl, cntF_zero fun j hj => ?_]
      · rfl
      · cases hh : f j with
        | false => rfl
        | true => have := (hf j).1 hh; omega
    · rw [cntF_one (by omega) hf]
      have : f n = false := by
        cases hh : f n with
        | false => rfl
        | true => exact absurd ((hf n).1 hh).symm e
      rw [this]
      rfl
end Go.Proofs.YtgegkcjllliifabDoor
