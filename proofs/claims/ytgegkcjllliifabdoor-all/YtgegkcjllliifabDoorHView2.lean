/-
  What laying, giving back and collecting turn of what lies where; clean.
-/
import Derived.Test.YtgegkcjllliifabDoorHView
namespace Go.Proofs.YtgegkcjllliifabDoor
open Go.RowKit

theorem LaidTo.sizeNew {s t : St} {k sz : Nat} {at' : Bool} (h : LaidTo s k sz at' t) (z1 : 1 ≤ sz) : t.size (k / 32) = sz ∧ t.atom (k / 32) = at' := by
  obtain ⟨a, b, _⟩ := h.run (k / 32) (Nat.le_refl _) (by omega)
  exact ⟨a, b⟩
theorem LaidTo.begNew {s t : St} {k sz : Nat} {at' : Bool} (h : LaidTo s k sz at' t) : t.beg k = true := by rw [h.beg]; exact upd_same _ _ _
theorem LaidTo.at {s t : St} {k sz : Nat} {at' : Bool} (h : LaidTo s k sz at' t) (wf : WF s) (z1 : 1 ≤ sz) (x : Int) : t.at x = if 1048576 + 8 * (k : Int) ≤ x ∧ x < 1048576 + 8 * (k : Int) + 8 * (sz : Int) then some k else s.at x := by
  split
  · rename_i c
    rw [at_iff h.wf]
    refine ⟨h.begNew, ?_⟩
    unfold St.lies
    rw [(h.sizeNew z1).1]
    exact c
  · rename_i c
    cases hx : s.at x with
    | none =>
      rw [at_none h.wf]
      intro j hj hl
      rw [h.beg] at hj
      unfold St.lies at hl
      by_cases e : j = k
      · rw [e, (h.sizeNew z1).1] at hl
        exact c hl
      · rw [upd_other _ _ _ _ e] at hj
        rw [(h.old j hj).1] at hl
        exact (at_none wf).1 hx j hj hl
    | some j =>
      obtain ⟨h1, h2⟩ := (at_iff wf).1 hx
      rw [at_iff h.wf, h.beg]
      refine ⟨?_, ?_⟩
      · unfold upd
        split
        · rfl
        · exact h1
      · unfold St.lies at h2 ⊢
        rw [(h.old j h1).1]
        exact h2

theorem coll_at {s : St} (wf : WF s) {stays black : Nat → Bool} {ag : Nat} (hs : ∀ k, stays k = true → s.beg k = true) (hw : WF (s.collected stays black ag)) (x : Int) (k : Nat) : (s.collected stays black ag).at x = some k ↔ s.at x = some k ∧ stays k = true := by
  rw [at_iff hw, at_iff wf]
  constructor
  · rintro ⟨h1, h2⟩
    exact ⟨⟨hs k h1, h2⟩, h1⟩
  · rintro ⟨⟨h1, h2⟩, h3⟩
    exact ⟨h3, h2⟩

/-- Pages that hold nothing are not in use when all is swept. -/
def St.used (s : St) : Nat := cntF (fun p => s.size p != 0) s.n
def St.unsw (s : St) : Nat := cntF s.uns s.n

theorem tid_uns {s : St} {p q : Nat} (h : (s.tidied p).uns q = true) : s.uns q = true ∧ ¬ (s.first p ≤ q ∧ q < s.first p + s.count p) := by
  by_cases c : s.first p ≤ q ∧ q < s.first p + s.count p
  · cases he : s.any (s.first p) with
    | true => rw [(tid_keep he c).2.2.2] at h; cases h
    | false => rw [(tid_in he c).2.2.2] at h; cases h
  · rw [(tid_out c).2.2.2] at h; exact ⟨h, c⟩
/-- All is swept, with runs enough. -/
theorem swp_all : ∀ (m : Nat) (s : St) (l : Int), m ≤ s.n → WF s → (m : Int) ≤ l → (∀ p, p < s.n - m → s.uns p = false) → ∀ p, p < s.n → (swp m s l).uns p = false
  | 0, s, l, _, _, _, hu, p, hp => hu p hp
  | m + 1, s, l, hm, h, hl, hu, p, hp => by
    unfold swp
    rw [if_neg (by omega)]
    have hq : s.n - (m + 1) < s.n := by omega
    split
    · rename_i hun
      have hz := h.uz _ hq hun
      refine swp_all m (s.tidied (s.n - (m + 1))) (l - 1) (show m ≤ s.n by omega) (h.tidied hq) (by omega) (fun q hq' => ?_) p hp
      have hq2 : q < s.n - m := hq'
      cases hh : (s.tidied (s.n - (m + 1))).uns q with
      | false => rfl
      | true =>
        obtain ⟨h1, h2⟩ := tid_uns hh
        by_cases e : q = s.n - (m + 1)
        · rcases h.run hq with ⟨a, _, _⟩ | ⟨a, b, c, d⟩ | ⟨a, b, c, d, e'⟩
          · omega
          · exact absurd (by omega) h2
          · exact absurd (by omega) h2
        · rw [hu q (by omega)] at h1; cases h1
    · rename_i hun
      refine swp_all m s l (by omega) h (by omega) (fun q hq' => ?_) p hp
      by_cases e : q = s.n - (m + 1)
      · rw [e]; simpa using hun
      · exact hu q (by omega)

theorem cntF_zero {f : Nat → Bool} : ∀ {n : Nat}, (∀ k, k < n → f k = false) → cntF f n = 0
  | 0, _ => rfl
  | n + 1, h => by unfold cntF; rw [cntF_zero fun k hk => h k (by omega), h n (by omega)]; rfl

structure Cleaned (s t : St) : Prop where
  wf : WF t
  n : t.n = s.n
  beg : ∀ k, t.beg k = true ↔ s.Reach k
  word : t.word = s.word
  blk : ∀ p, t.blk p = true ↔ s.Named p
  roots : t.roots = s.roots
  room : t.room = s.room
  colls : t.colls = s.colls + 1
  trig : t.trig = s.trig
  since : t.since = 0
  old : ∀ k, t.beg k = true → t.size (k / 32) = s.size (k / 32) ∧ t.atom (k / 32) = s.atom (k / 32)
  uns : ∀ p, p < t.n → t.uns p = false
  a1 : t.again ≤ cntF t.beg (t.n * 32)
  a2 : 0 < t.again → s.room + 1 ≤ cntF t.beg (t.n * 32)
  at' : ∀ x k, t.at x = some k ↔ s.at x = some k ∧ s.Reach k

theorem cleaned_of {s : St} (wf : WF s) {stays black : Nat → Bool} {ag : Nat} (hm : Marked s stays black) (h1 : ag ≤ cntF stays (s.n * 32)) (h2 : 0 < ag → s.room + 1 ≤ cntF stays (s.n * 32)) (hw : WF (s.collected stays black ag)) (l : Int) (hl : (s.n : Int) ≤ l) : Cleaned s ((s.collected stays black ag).swept l) := by
  have t := swept_to hw l
  have hs : ∀ k, stays k = true → s.beg k = true := fun k hk => Reach.beg wf ((hm.stay k).1 hk)
  refine ⟨t.wf, t.n, fun k => by rw [t.beg]; exact hm.stay k, t.word, fun p => by rw [t.blk]; exact hm.blk p, t.roots, t.room, t.colls, t.trig, t.since, fun k hk => ?_, fun p hp => ?_, ?_, fun hp => ?_, fun x k => ?_⟩
  · rw [t.beg] at hk
    exact t.size hw hk
  · rw [t.n] at hp
    exact swp_all s.n (s.collected stays black ag) l (Nat.le_refl _) hw hl (fun q hq => absurd hq (by show ¬ q < s.n - s.n; omega)) p hp
  · rw [t.again, t.beg, t.n]; exact h1
  · rw [t.again] at hp
    rw [t.beg, t.n]
    exact h2 hp
  · rw [t.at hw, coll_at wf hs hw, hm.stay]

/-- What is told of a heap. -/
def St.counts (s : St) : Value := .agg #[.int .i64 (cntF s.beg (s.n * 32)), .int .i64 (sumW s (s.n * 32)), .int .i64 s.colls, .int .i64 s.again, .int .i64 s.used, .int .i64 s.unsw]

set_option maxHeartbeats 1600000 in
theorem clean_any (L : HL) (s : St) (w : World) (h : Rep w L s) (wf : WF s) (hc : s.colls ≤ 4611686018427387904) :
    Calls Tryd.prog 25 #[.pointer (some ⟨L.h, 0, none⟩)] w fun e w' => ∃ t, e = .returned t.counts ∧ Cleaned s t ∧ HSt w L t w' := by
  obtain ⟨W0, hW0, b0, z0, g0⟩ : ∃ W0, w.alloc (ctObj 0 0 0 0 0 0) = W0 ∧ Below w.heap.size w W0 ∧ W0.heap.size = w.heap.size + 1 ∧ W0.heap[w.heap.size]? = some (ctObj 0 0 0 0 0 0) := ⟨_, rfl, (Below.refl _ _).alloc (Nat.le_refl _) _, by simp, heap_alloc_new w _⟩
  have r0 := h.below b0
  have C1 := hide (collect_wf L s W0 r0 wf hc)
  have hn := h.n2
  have W := hide wf
  have HW0 := hide hW0
  have HG : Hid (w.heap.size ∉ L.blocks) := fun e => by have := h.lt _ e; omega
  have HB0 := hide b0
  have HG0 := hide g0
  unfold ctObj at HW0
  clear h wf hW0 b0 g0 r0
  go_enter Tryd.func25, Tryd.ntmps25
  go_wp2_with fail
  rw [unhide HW0]
  refine (unhide C1).mono ?_
  rintro e w1 ⟨rfl, stays, black, ag, h1, h2, h3, h4, L1, e1, r1, i1, t1⟩
  have C2 := sweep_any L1 _ 48 w1 r1 h4 (by omega) (by omega)
  have T := hide (swept_to h4 48)
  have CL := hide (cleaned_of (unhide W) h1 h2 h3 h4 48 (by omega))
  rw [e1] at C2
  have CC2 := hide C2
  have E1 := hide e1
  have I1 := hide i1
  have T1 := hide t1
  have G1 : Hid (w1.heap[w.heap.size]? = some (ctObj 0 0 0 0 0 0)) := (t1.block _ (by omega) (unhide HG)).trans (unhide HG0)
  have N1 : Hid (w.heap.size ∉ L1.blocks) := fun e => (i1 _ e).elim (unhide HG) (by omega)
  have Z1 := hide t1.size
  clear h1 h2 h3 h4 e1 r1 i1 t1 C2
  go_wp2_with fail
  refine (unhide CC2).mono ?_
  rintro e w2 ⟨rfl, r2, t2⟩
  have C3 := counts_any L1 _ w2 r2 (fun p hp => ⟨(unhide T).wf.z0 p hp, (unhide T).wf.z1 p hp⟩)
  rw [unhide E1] at C3
  have CC3 := hide C3
  have R2 := hide r2
  have T2 := hide t2
  have G2 : Hid (w2.heap[w.heap.size]? = some (ctObj 0 0 0 0 0 0)) := (t2.block _ (heap_lt (unhide G1)) (unhide N1)).trans (unhide G1)
  clear r2 t2 C3
  go_wp2_with fail
  refine (unhide CC3).mono ?_
  rintro e w3 ⟨rfl, hb⟩
  have G3 : w3.heap[w.heap.size]? = some (ctObj 0 0 0 0 0 0) := (hb.block _ (heap_lt (unhide G2))).trans (unhide G2)
  have HF0 := hide (HSt.trans (unhide E1) (unhide I1) (unhide T1) ⟨L1, rfl, (unhide R2).below hb, fun _ hk => .inl hk, (unhide T2).below hb⟩)
  generalize ht : (s.collected stays black ag).swept 48 = t at *
  obtain ⟨W6, hW6, hrs, hb6⟩ := ct_fill G3 (cntF t.beg (t.n * 32)) (sumW t (t.n * 32)) t.colls t.again (cntF (fun p => t.size p != 0) t.n) (cntF t.uns t.n)
  obtain ⟨q0, q1, q2, q3, q4, q5, _⟩ := ctObj_cells hrs
  obtain ⟨p0, p1, p2, p3, p4, p5, pz⟩ := ctObj_cells G3
  have HW6 := hide hW6
  have HF : Hid (HSt w L t W6) := by
    obtain ⟨L', e', r', i', t'⟩ := unhide HF0
    refine ⟨L', e', r'.agree fun k hk => ?_, fun k hk => ?_, ?_⟩
    · rcases i' k hk with x | x
      · have hk' := (t'.block)
        have hlt : k < w3.heap.size := r'.lt k hk
        have hne : k ≠ w.heap.size := fun e => unhide HG (by rw [← e]; exact x)
        rw [← hW6, set_heap_other _ _ _ _ _ hne, set_heap_other _ _ _ _ _ hne, set_heap_other _ _ _ _ _ hne, set_heap_other _ _ _ _ _ hne, set_heap_other _ _ _ _ _ hne, set_heap_other _ _ _ _ _ hne]
      · have hne : k ≠ w.heap.size := by omega
        rw [← hW6, set_heap_other _ _ _ _ _ hne, set_heap_other _ _ _ _ _ hne, set_heap_other _ _ _ _ _ hne, set_heap_other _ _ _ _ _ hne, set_heap_other _ _ _ _ _ hne, set_heap_other _ _ _ _ _ hne]
    · exact (i' k hk).elim .inl fun x => .inr (by omega)
    · refine ((Touch.of_below (unhide HB0)).trans t' fun i hi => .inl hi).trans (B' := [w.heap.size]) ⟨hb6.os, hb6.tape, hb6.output, hb6.size, fun k hk hn => ?_⟩ fun i hi => ?_
      · have hne : k ≠ w.heap.size := by simpa using hn
        rw [← hW6, set_heap_other _ _ _ _ _ hne, set_heap_other _ _ _ _ _ hne, set_heap_other _ _ _ _ _ hne, set_heap_other _ _ _ _ _ hne, set_heap_other _ _ _ _ _ hne, set_heap_other _ _ _ _ _ hne]
      · simp at hi
        rw [hi]
        exact .inr (Nat.le_refl _)
  clear hW6 hrs hb6 hb ht G3
  go_wp2
  rw [unhide HW6]
  refine bodyPost_ret (by simp [results, Tryd.results25, go_sem, q0, q1, q2, q3, q4, q5]; rfl) rfl ?_
  exact ⟨t, rfl, unhide CL, unhide HF⟩
end Go.Proofs.YtgegkcjllliifabDoor
