/-
  Where room is sought; a pile of objects of one size, each of which names the one ahead of it.
-/
import Derived.Test.YtgegkcjllliifabDoorSRing
namespace Go.Proofs.YtgegkcjllliifabDoor
open Go.RowKit

theorem freeFrom_congr {s t : St} (hb : t.beg = s.beg) (st sz : Nat) : ∀ f k, freeFrom t st sz f k = freeFrom s st sz f k
  | 0, _ => rfl
  | f + 1, k => by unfold freeFrom; rw [hb, freeFrom_congr hb st sz f]
theorem held_congr {s t : St} (h4 : t.back = s.back) (h5 : t.beg = s.beg) (p : Nat) : t.held p = s.held p := by unfold St.held St.any; rw [h4, h5]
theorem place_congr {s t : St} (h1 : t.n = s.n) (h2 : t.size = s.size) (h3 : t.atom = s.atom) (h4 : t.back = s.back) (h5 : t.beg = s.beg) (h6 : t.blk = s.blk) (sz : Nat) (at' : Bool) : t.place sz at' = s.place sz at' := by
  have hh := held_congr h4 h5
  have hs : ∀ p, t.share sz at' p = s.share sz at' p := fun p => by
    unfold St.share freeAt
    rw [h2, h3, hh, freeFrom_congr h5]
  have hf : ∀ p, t.free p at' = s.free p at' := fun p => by
    unfold St.free
    rw [h6, hh]
  have g1 : ∀ m, sharedFrom t sz at' m = sharedFrom s sz at' m := fun m => by
    induction m with
    | zero => rfl
    | succ m ih => unfold sharedFrom; rw [hs, h1, ih]
  have g2 : ∀ m run, emptyFrom t at' ((sz + 31) / 32) m run = emptyFrom s at' ((sz + 31) / 32) m run := fun m => by
    induction m with
    | zero => intro run; rfl
    | succ m ih => intro run; unfold emptyFrom; rw [hf, h1, ih, ih]
  unfold St.place
  rw [h1, g1, g2]

theorem emptyFrom_low {s : St} {at' : Bool} {count : Nat} (hc : 1 ≤ count) : ∀ {m run k : Nat}, m ≤ s.n → run ≤ s.n - m → run < count → emptyFrom s at' count m run = some k → ∀ F', s.n - m - run ≤ F' → F' * 32 < k → ∃ j, j < count ∧ s.free (F' + j) at' = false
  | 0, _, _, _, _, _, h => by cases h
  | m + 1, run, k, hm, hr, hlt, h => by
    intro F' h1 h2
    unfold emptyFrom at h
    split at h
    · split at h
      · cases h; omega
      · exact emptyFrom_low hc (by omega) (by omega) (by omega) h F' (by omega) h2
    · rename_i hf
      have hf' : s.free (s.n - (m + 1)) at' = false := by simpa using hf
      by_cases c : F' ≤ s.n - (m + 1)
      · exact ⟨s.n - (m + 1) - F', by omega, by rw [show F' + (s.n - (m + 1) - F') = s.n - (m + 1) by omega]; exact hf'⟩
      · exact emptyFrom_low hc (by omega) (by omega) (by omega) h F' (by omega) h2
/-- An object that has pages of its own takes the lowest. -/
theorem place_low {s : St} {sz k : Nat} {at' : Bool} (hz : 1 ≤ sz) (h : s.place sz at' = some k) (hs : sz ≤ 16 → ∀ p, p < s.n → s.share sz at' p = none) : ∃ F, Alone s sz at' F k ∧ ∀ F', F' < F → ∃ j, j < (sz + 31) / 32 ∧ s.free (F' + j) at' = false := by
  rcases place_some hz h with ⟨p, b⟩ | ⟨⟨F, a⟩, _⟩
  · exfalso
    obtain ⟨i, e1, e2, e3, _⟩ := b.pos
    have := hs b.sz16 p b.lt
    unfold St.share at this
    rw [if_pos ⟨b.size, b.atom, b.held⟩] at this
    have := freeFrom_none hz this (by omega) i (by omega)
    rw [← e1, e3] at this
    cases this
  · refine ⟨F, a, fun F' hF => ?_⟩
    have e := a.pos
    unfold St.place at h
    have hn : (if sz ≤ 16 then sharedFrom s sz at' s.n else none) = none := by
      split
      · rename_i c
        cases hx : sharedFrom s sz at' s.n with
        | none => rfl
        | some y =>
          obtain ⟨p, h1, _, h3, _⟩ := sharedFrom_some (Nat.le_refl _) hx
          rw [hs c p h1] at h3
          cases h3
      · rfl
    rw [hn] at h
    exact emptyFrom_low (by omega) (Nat.le_refl _) (by omega) (by omega) h F' (by omega) (by omega)

/-- Objects of sz words, none of them atomic, in the order in which they were laid; the first word of each names the one ahead of it, the others are 0. -/
structure Stk (n sz : Nat) (s : St) (P : List Nat) : Prop where
  sn : s.n = n
  wf : WF s
  beg : ∀ k, s.beg k = true ↔ k ∈ P
  nd : P.Nodup
  cnt : cntF s.beg (n * 32) = P.length
  size : ∀ k, k ∈ P → s.size (k / 32) = sz ∧ s.atom (k / 32) = false
  w0 : ∀ j (hj : j < P.length), s.word (P[j]) = lastA (P.take j)
  wr : ∀ k i, k ∈ P → 1 ≤ i → i < sz → s.word (k + i) = 0
theorem Stk.at {n sz : Nat} {s : St} {P : List Nat} (h : Stk n sz s P) {k : Nat} (hk : k ∈ P) (i : Int) (i1 : 0 ≤ i) (i2 : i < 8 * (sz : Int)) : s.at (adr k + i) = some k := by
  rw [at_iff h.wf]
  refine ⟨(h.beg k).2 hk, ?_⟩
  unfold St.lies adr
  rw [(h.size k hk).1]
  omega
theorem Stk.init (n sz r : Nat) : Stk n sz (St.init n r) [] := by
  refine ⟨rfl, WF.init _ _, fun k => ?_, List.nodup_nil, ?_, fun k hk => (by cases hk), fun j hj => absurd hj (by simp), fun k i hk => (by cases hk)⟩
  · show false = true ↔ _
    simp
  · exact cntF_zero fun _ _ => rfl
theorem Stk.roots {n sz : Nat} {s : St} {P : List Nat} (h : Stk n sz s P) (l : List Int) : Stk n sz { s with roots := l } P := ⟨h.sn, h.wf.roots l, h.beg, h.nd, h.cnt, h.size, h.w0, h.wr⟩

theorem Stk.lay {n sz k : Nat} {s t : St} {P : List Nat} (h : Stk n sz s P) (z1 : 1 ≤ sz) (l : LaidTo s k sz false t) : Stk n sz (t.setWd k (lastA P)) (P ++ [k]) ∧ t.at (adr k) = some k := by
  have hkP : k ∉ P := fun e => by have := l.was; rw [(h.beg k).2 e] at this; cases this
  have hsep : ∀ j i, j ∈ P → i < sz → ¬ (k ≤ j + i ∧ j + i < k + sz) := by
    intro j i hj hi hc
    have h1 : t.at (adr j + 8 * (i : Int)) = some k := by
      rw [l.at h.wf z1, if_pos (by unfold adr; omega)]
    have h2 : t.at (adr j + 8 * (i : Int)) = some j := by
      rw [at_iff l.wf]
      refine ⟨?_, ?_⟩
      · rw [l.beg]; unfold upd; split
        · rfl
        · exact (h.beg j).2 hj
      · unfold St.lies adr
        rw [(l.old j ((h.beg j).2 hj)).1, (h.size j hj).1]
        omega
    rw [h1] at h2
    cases h2
    exact hkP hj
  have hlt := l.lt
  rw [h.sn] at hlt
  refine ⟨⟨l.n.trans h.sn, l.wf.setWd _ _, fun j => ?_, ?_, ?_, fun j hj => ?_, fun j hj => ?_, fun j i hj i1 i2 => ?_⟩, ?_⟩
  · show t.beg j = true ↔ _
    rw [l.beg, List.mem_append, List.mem_singleton]
    unfold upd
    by_cases e : j = k
    · simp [e]
    · rw [if_neg e]
      rw [h.beg j]
      simp [e]
  · rw [List.nodup_append]
    exact ⟨h.nd, by simp, fun a ha b hb e => by simp at hb; rw [hb] at e; exact hkP (by rw [← e]; exact ha)⟩
  · show cntF t.beg (n * 32) = _
    rw [l.beg, cntF_upd (by omega) l.was, h.cnt]
    simp
  · show t.size (j / 32) = sz ∧ t.atom (j / 32) = false
    rw [List.mem_append, List.mem_singleton] at hj
    rcases hj with hj | rfl
    · have a := l.old j ((h.beg j).2 hj)
      have b := h.size j hj
      exact ⟨a.1.trans b.1, a.2.trans b.2⟩
    · exact l.sizeNew z1
  · show upd t.word k (lastA P) _ = _
    by_cases e : j < P.length
    · rw [List.getElem_append_left e, List.take_append_of_le_length (by omega)]
      have hm : P[j] ∈ P := List.getElem_mem e
      rw [upd_other _ _ _ _ (fun e2 => hkP (by rw [← e2]; exact hm)), l.word]
      show (if _ then _ else _) = _
      rw [if_neg (by have := hsep (P[j]) 0 hm (by omega); simpa using this)]
      exact h.w0 j e
    · have e2 : j = P.length := by simp at hj; omega
      subst e2
      rw [List.getElem_append_right (by omega), List.take_left']
      · simp only [Nat.sub_self, List.getElem_singleton]
        exact upd_same _ _ _
      · rfl
  · show upd t.word k (lastA P) _ = 0
    rw [List.mem_append, List.mem_singleton] at hj
    rcases hj with hj | rfl
    · have hs := hsep j i hj i2
      rw [upd_other _ _ _ _ (by omega), l.word]
      show (if _ then _ else _) = _
      rw [if_neg hs]
      exact h.wr j i hj i1 i2
    · rw [upd_other _ _ _ _ (by omega), l.word]
      exact if_pos ⟨by omega, by omega⟩
  · rw [l.at h.wf z1, if_pos (by unfold adr; omega)]

/-- Whatever names the last one names all. -/
theorem Stk.reach {n sz : Nat} {s : St} {P : List Nat} (h : Stk n sz s P) (z1 : 1 ≤ sz) (hr : lastA P ∈ s.roots) (k : Nat) : s.Reach k ↔ k ∈ P := by
  constructor
  · intro hr
    exact (h.beg k).1 (Reach.beg h.wf hr)
  · intro hk
    have hpos : 0 < P.length := List.length_pos_of_mem hk
    have hat : ∀ j (hj : j < P.length), s.at (adr (P[j])) = some (P[j]) := fun j hj => by
      have := h.at (List.getElem_mem hj) 0 (by omega) (by omega)
      rw [Int.add_zero] at this
      exact this
    have key : ∀ d (hd : d < P.length), s.Reach (P[P.length - 1 - d]'(by omega)) := by
      intro d
      induction d with
      | zero =>
        intro hd
        refine .root (x := lastA P) hr ?_
        rw [lastA_at (P.length - 1) (by omega)]
        exact hat _ _
      | succ d ih =>
        intro hd
        have r1 := ih (by omega)
        have hm : P[P.length - 1 - d]'(by omega) ∈ P := List.getElem_mem _
        have hsz := h.size _ hm
        refine .word (i := 0) r1 hsz.2 (by rw [hsz.1]; simp; omega) ?_
        have hw := h.w0 (P.length - 1 - d) (by omega)
        rw [lastA_at (P.length - 1 - (d + 1)) (by rw [List.length_take]; omega)] at hw
        rw [Nat.add_zero, hw]
        rw [List.getElem_take]
        exact hat _ _
    obtain ⟨i, hi, rfl⟩ := List.getElem_of_mem hk
    have := key (P.length - 1 - i) (by omega)
    have e : P.length - 1 - (P.length - 1 - i) = i := by omega
    simp only [e] at this
    exact this
/-- No word of theirs names a page without an object. -/
theorem Stk.named {n sz : Nat} {s : St} {P : List Nat} (h : Stk n sz s P) {p : Nat} (hn : s.Named p) : ∃ x, x ∈ s.roots ∧ s.inHeap x ∧ s.at x = none ∧ pgOf x = p := by
  obtain ⟨x, hx, hin, ha, hp⟩ := hn
  rcases hx with hx | ⟨j, i, hj, _, hi, rfl⟩
  · exact ⟨x, hx, hin, ha, hp⟩
  · exfalso
    have hm := (h.beg j).1 (Reach.beg h.wf hj)
    rw [(h.size j hm).1] at hi
    have hi' : i < sz := by omega
    by_cases e : i = 0
    · subst e
      obtain ⟨d, hd, rfl⟩ := List.getElem_of_mem hm
      rw [Nat.add_zero] at hin ha
      have hw := h.w0 d hd
      rcases Nat.eq_zero_or_pos d with e0 | e0
      · subst e0
        have : s.word (P[0]) = 0 := hw
        rw [this] at hin
        have := hin.1
        omega
      · rw [lastA_at (d - 1) (by rw [List.length_take]; omega), List.getElem_take] at hw
        rw [hw] at ha
        have := h.at (List.getElem_mem (show d - 1 < P.length by omega)) 0 (by omega) (by omega)
        rw [Int.add_zero, ha] at this
        cases this
    · have := h.wr j i hm (by omega) hi'
      rw [this] at hin
      have := hin.1
      omega
/-- A collection leaves all of it where it is. -/
theorem Stk.ahead {n sz : Nat} {s t : St} {P : List Nat} (h : Stk n sz s P) (z1 : 1 ≤ sz) (hr : lastA P ∈ s.roots) (hb : ∀ p, s.Named p ↔ s.blk p = true) (a : AheadC s t) : Stk n sz t P ∧ t.roots = s.roots ∧ t.blk = s.blk ∧ t.beg = s.beg ∧ t.trig = s.trig ∧ t.colls = s.colls + 1 ∧ t.size = s.size ∧ t.back = s.back ∧ ∀ sz' at', t.place sz' at' = s.place sz' at' := by
  obtain ⟨stays, black, ag, m, _, _, rfl⟩ := a.ex
  have e1 : stays = s.beg := by
    funext k
    have := (m.stay k).trans ((h.reach z1 hr k).trans (h.beg k).symm)
    cases h1 : stays k <;> cases h2 : s.beg k <;> simp_all
  have e2 : black = s.blk := by
    funext p
    have := (m.blk p).trans (hb p)
    cases h1 : black p <;> cases h2 : s.blk p <;> simp_all
  subst e1 e2
  refine ⟨⟨h.sn, a.wf, h.beg, h.nd, h.cnt, h.size, h.w0, h.wr⟩, rfl, rfl, rfl, rfl, rfl, rfl, rfl, fun sz' at' => place_congr (s := s) (t := s.collected s.beg s.blk ag) rfl rfl rfl rfl rfl rfl sz' at'⟩
theorem cntF_none {f : Nat → Bool} : ∀ {n : Nat}, cntF f n = 0 → ∀ k, k < n → f k = false
  | 0, _, k, hk => by omega
  | n + 1, h, k, hk => by
    unfold cntF at h
    by_cases e : k = n
    · rw [e]
      cases hh : f n with
      | false => rfl
      | true => rw [hh] at h; simp at h
    · exact cntF_none (n := n) (by omega) k (by omega)
theorem Stk.nil {n sz : Nat} {s : St} (sn : s.n = n) (wf : WF s) (hc : cntF s.beg (n * 32) = 0) : Stk n sz s [] := by
  refine ⟨sn, wf, fun k => ?_, List.nodup_nil, hc, fun k hk => (by cases hk), fun j hj => absurd hj (by simp), fun k i hk => (by cases hk)⟩
  constructor
  · intro hk
    have := (wf.bg k hk).1
    rw [sn] at this
    rw [cntF_none hc k this] at hk
    cases hk
  · intro hk; cases hk

/-- Alloc where there is no room, and all that lies there stays. -/
theorem hd_full {w0 w : World} {hb : Nat} {L : HL} {s : St} {m sz n : Nat} {P : List Nat} (h : Hd w0 w hb L s) (st : Stk m sz s P) (hr : lastA P ∈ s.roots) (hbk : ∀ p, s.Named p ↔ s.blk p = true) (hc : s.colls ≤ 4611686018427387904) (h1 : 1 ≤ n) (h2 : n ≤ s.n * 32) (hz : sizeOf' n = sz) (hp : s.place sz false = none) :
    Calls Tryd.prog 20 #[.pointer (some ⟨hb, 0, none⟩), .int .i64 n, .bool false] w fun e w' => e = .returned (.tuple #[.int .i64 0, .int .i64 3]) ∧ ∃ L' t, Hd w0 w' hb L' t ∧ Stk m sz t P ∧ t.roots = s.roots ∧ t.blk = s.blk ∧ t.beg = s.beg ∧ t.colls = s.colls + 1 ∧ t.size = s.size ∧ t.back = s.back ∧ t.place sz false = none := by
  obtain ⟨z, e1, e2, e3, e4, e5⟩ := size_bd n h1
  obtain rfl : z = sz := by omega
  refine (hg_alloc h.toHg hc n z false h1 h2 hz).mono ?_
  rintro e w' ⟨t, ha, hto⟩
  rcases ha with ⟨_, q, _⟩ | ⟨_, q⟩
  · exact absurd hp q
  · obtain ⟨s1, s2, s3, s4, s5, s6, s7, s8, s9⟩ := st.ahead (by omega) hr hbk q
    have hpt : t.place z false = none := (s9 z false).trans hp
    cases hto with
    | full _ he hs =>
      obtain ⟨L', g, _, _⟩ := h.hst hs q.wf s5
      exact ⟨he, L', t, g, s1, s2, s3, s4, s6, s7, s8, hpt⟩
    | ok k hk => rw [hpt] at hk; cases hk

/-- Alloc, whatever it answers. -/
theorem hd_any {w0 w : World} {hb : Nat} {L : HL} {s : St} (h : Hd w0 w hb L s) (hc : s.colls ≤ 4611686018427387904) (n sz : Nat) (at' : Bool) (h1 : 1 ≤ n) (h2 : n ≤ s.n * 32) (hz : sizeOf' n = sz) :
    Calls Tryd.prog 20 #[.pointer (some ⟨hb, 0, none⟩), .int .i64 n, .bool at'] w fun e w' => ∃ (L' : HL) (t' : St), Hd w0 w' hb L' t' ∧ t'.n = s.n ∧ t'.roots = s.roots ∧ t'.colls ≤ s.colls + 1 ∧ (e = .returned (.tuple #[.int .i64 0, .int .i64 3]) ∨ ∃ k : Nat, k ≤ 1536 ∧ e = .returned (.tuple #[.int .i64 (1048576 + (k : Int) * 8), .int .i64 0])) := by
  refine (hg_alloc h.toHg hc n sz at' h1 h2 hz).mono ?_
  rintro e w' ⟨t, ha, hto⟩
  have ht : t.n = s.n ∧ t.roots = s.roots ∧ t.colls ≤ s.colls + 1 ∧ t.trig = s.trig ∧ WF t := by
    rcases ha with ⟨_, _, rfl⟩ | ⟨_, q⟩
    · exact ⟨rfl, rfl, by omega, rfl, h.wf⟩
    · have wt := q.wf
      obtain ⟨stays, black, ag, _, _, _, rfl⟩ := q.ex
      exact ⟨rfl, rfl, Nat.le_refl _, rfl, wt⟩
  obtain ⟨t1, t2, t3, t4, t5⟩ := ht
  cases hto with
  | full _ he hs =>
    obtain ⟨L', g, _, _⟩ := h.hst hs t5 t4
    exact ⟨L', t, g, t1, t2, t3, .inl he⟩
  | ok k hk he hl hs =>
    obtain ⟨L', g, _, _⟩ := h.hst hs hl.wf (hl.trig.trans t4)
    have hlt := hl.lt
    have hn := h.r.n2
    exact ⟨L', _, g, hl.n.trans t1, hl.roots.trans t2, by rw [hl.colls]; exact t3, .inr ⟨k, by omega, he⟩⟩
end Go.Proofs.YtgegkcjllliifabDoor
