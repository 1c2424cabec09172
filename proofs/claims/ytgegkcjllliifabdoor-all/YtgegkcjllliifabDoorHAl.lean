/-
  The walks of findRoom and Alloc: collections ahead of an object.
-/
import Derived.Test.YtgegkcjllliifabDoorHView2
namespace Go.Proofs.YtgegkcjllliifabDoor
open Go.RowKit

/-- Would there be more words than may be laid between two collections? -/
def St.due (s : St) (sz : Nat) : Prop := s.trig ≠ 0 ∧ s.trig < s.since + sz

theorem wrap_since {w : World} {L : HL} {s : St} (R : Rep w L s) (h : s.trig ≠ 0) : IntKind.i64.wrap (s.since : Int) = (s.since : Int) := by
  have := R.sb h
  go_unwrap

theorem belowDrewN (b : Nat) (w : World) (q : Nat) : Below b w (w.drewN q) := ⟨rfl, rfl, rfl, Nat.le_refl _, fun _ _ => rfl⟩

set_option maxHeartbeats 400000 in
theorem findRoom_still (L : HL) (s : St) (sz k : Nat) (at' : Bool) (w : World) (R : Rep w L s) (ok : s.ok) (h1 : 1 ≤ sz) (h2 : sz ≤ 1536) (hd : ¬ s.due sz) (hp : s.place sz at' = some k) :
    Calls Tryd.prog 35 #[.pointer (some ⟨L.h, 0, none⟩), .int .i64 sz, .bool at'] w fun e w' => e = .returned (.int .i64 k) ∧ Below w.heap.size w w' := by
  have ft := R.cells.ft
  have fs := R.cells.fs
  have C2 : Hid (∀ w1, Below w.heap.size w w1 → Calls Tryd.prog 57 #[.pointer (some ⟨L.h, 0, none⟩), .int .i64 sz, .bool at'] w1 fun e w' => e = .returned (.int .i64 (k : Int)) ∧ Below w.heap.size w w') := by
    intro w1 hb
    have := roomFor_any L s sz at' w1 (R.below hb) ok h1 h2
    rw [hp] at this
    refine this.mono ?_
    rintro e w' ⟨he, hb'⟩
    exact ⟨he, hb.trans (hb'.mono hb.size)⟩
  have hne : ((k : Int) != -1) = true := by simp
  by_cases c : s.trig = 0
  · have z : ((s.trig : Int) != 0) = false := by simp [c]
    clear R ok hp hd c
    go_enter Tryd.func35, Tryd.ntmps35
    go_wp2_with fail
    go_quiet (fail)
    go_wp2_with fail
    refine (unhide C2 _ (belowDrewN _ _ _)).mono ?_
    rintro e w' ⟨rfl, hb⟩
    go_wp2
    go_ret
    exact ⟨rfl, hb⟩
  · have z : ((s.trig : Int) != 0) = true := by simpa using c
    rw [wrap_since R c] at fs
    have sb := R.sb c
    have tg := R.tg
    have hd' : decide ((s.trig : Int) < (s.since : Int) + (sz : Int)) = false := by
      by_cases q : s.since + sz ≤ s.trig
      · simp; omega
      · exact absurd ⟨c, by omega⟩ hd
    clear R ok hp hd c
    go_enter Tryd.func35, Tryd.ntmps35
    go_wp2_with fail
    go_quiet (fail)
    go_wp2_with fail
    refine (unhide C2 _ (belowDrewN _ _ _)).mono ?_
    rintro e w' ⟨rfl, hb⟩
    go_wp2
    go_ret
    exact ⟨rfl, hb⟩

/-- A collection goes ahead of it. -/
structure AheadC (s t : St) : Prop where
  wf : WF t
  ex : ∃ stays black ag, Marked s stays black ∧ ag ≤ cntF stays (s.n * 32) ∧ (0 < ag → s.room + 1 ≤ cntF stays (s.n * 32)) ∧ t = s.collected stays black ag

set_option maxHeartbeats 800000 in
theorem findRoom_coll (L : HL) (s : St) (sz : Nat) (at' : Bool) (w : World) (R : Rep w L s) (wf : WF s) (hc : s.colls ≤ 4611686018427387904) (h1 : 1 ≤ sz) (h2 : sz ≤ 1536) (hd : s.due sz ∨ s.place sz at' = none) :
    Calls Tryd.prog 35 #[.pointer (some ⟨L.h, 0, none⟩), .int .i64 sz, .bool at'] w fun e w' => ∃ t, AheadC s t ∧ e = .returned (.int .i64 (optInt (t.place sz at'))) ∧ HSt w L t w' := by
  have CF : Hid (∀ w1, Below w.heap.size w w1 → Calls Tryd.prog 28 #[.pointer (some ⟨L.h, 0, none⟩)] w1 fun e w' => e = .returned (.tuple #[]) ∧ ∃ t, AheadC s t ∧ HSt w L t w') := by
    intro w1 hb
    refine (collect_wf L s w1 (R.below hb) wf hc).mono ?_
    rintro e w' ⟨he, stays, black, ag, k1, k2, k3, k4, L1, e1, r1, i1, t1⟩
    have hs := hb.size
    exact ⟨he, _, ⟨k4, stays, black, ag, k1, k2, k3, rfl⟩, L1, e1, r1, fun k hk => (i1 k hk).elim .inl fun x => .inr (by omega), (Touch.of_below hb).trans t1 fun i hi => .inl hi⟩
  have CL : Hid (∀ (t : St) (w1 : World), AheadC s t → HSt w L t w1 → Calls Tryd.prog 57 #[.pointer (some ⟨L.h, 0, none⟩), .int .i64 sz, .bool at'] w1 fun e w' => e = .returned (.int .i64 (optInt (t.place sz at'))) ∧ HSt w L t w') := by
    rintro t w1 ha ⟨L1, e1, r1, i1, t1⟩
    have := roomFor_any L1 t sz at' w1 r1 ha.wf.ok h1 h2
    rw [e1] at this
    refine this.mono ?_
    rintro e w' ⟨he, hb⟩
    exact ⟨he, L1, e1, r1.below hb, i1, t1.below hb⟩
  have ft := R.cells.ft
  have fs := R.cells.fs
  by_cases q : s.due sz
  · obtain ⟨c, q⟩ := q
    have z : ((s.trig : Int) != 0) = true := by simpa using c
    rw [wrap_since R c] at fs
    have sb := R.sb c
    have tg := R.tg
    have hd' : decide ((s.trig : Int) < (s.since : Int) + (sz : Int)) = true := by simp; omega
    clear R wf hd c
    go_enter Tryd.func35, Tryd.ntmps35
    go_wp2_with fail
    go_quiet (fail)
    go_wp2_with fail
    refine (unhide CF _ (belowDrewN _ _ _)).mono ?_
    rintro e w1 ⟨rfl, t, ha, hs⟩
    have CC := hide (unhide CL t w1 ha hs)
    have HA := hide ha
    clear ha hs
    go_wp2_with fail
    refine (unhide CC).mono ?_
    rintro e w2 ⟨rfl, hs⟩
    have HS := hide hs
    clear hs
    go_wp2
    go_ret
    exact ⟨t, unhide HA, rfl, unhide HS⟩
  · have hp := hd.resolve_left q
    have C2 : Hid (∀ w1, Below w.heap.size w w1 → Calls Tryd.prog 57 #[.pointer (some ⟨L.h, 0, none⟩), .int .i64 sz, .bool at'] w1 fun e w' => e = .returned (.int .i64 (-1)) ∧ Below w.heap.size w w') := by
      intro w1 hb
      have := roomFor_any L s sz at' w1 (R.below hb) wf.ok h1 h2
      rw [hp] at this
      refine this.mono ?_
      rintro e w' ⟨he, hb'⟩
      exact ⟨he, hb.trans (hb'.mono hb.size)⟩
    by_cases c : s.trig = 0
    · have z : ((s.trig : Int) != 0) = false := by simp [c]
      clear R wf hp hd c q
      go_enter Tryd.func35, Tryd.ntmps35
      go_wp2_with fail
      go_quiet (fail)
      go_wp2_with fail
      refine (unhide C2 _ (belowDrewN _ _ _)).mono ?_
      rintro e w' ⟨rfl, hb⟩
      have CB := hide (unhide CF w' hb)
      clear hb CF
      go_wp2_with fail
      refine (unhide CB).mono ?_
      rintro e w1 ⟨rfl, t, ha, hs⟩
      have CC := hide (unhide CL t w1 ha hs)
      have HA := hide ha
      clear ha hs
      go_wp2_with fail
      refine (unhide CC).mono ?_
      rintro e w2 ⟨rfl, hs⟩
      have HS := hide hs
      clear hs
      go_wp2
      go_ret
      exact ⟨t, unhide HA, rfl, unhide HS⟩
    · have z : ((s.trig : Int) != 0) = true := by simpa using c
      rw [wrap_since R c] at fs
      have sb := R.sb c
      have tg := R.tg
      have hd' : decide ((s.trig : Int) < (s.since : Int) + (sz : Int)) = false := by
        by_cases q' : s.since + sz ≤ s.trig
        · simp; omega
        · exact absurd ⟨c, by omega⟩ q
      clear R wf hp hd c q
      go_enter Tryd.func35, Tryd.ntmps35
      go_wp2_with fail
      go_quiet (fail)
      go_wp2_with fail
      refine (unhide C2 _ (belowDrewN _ _ _)).mono ?_
      rintro e w' ⟨rfl, hb⟩
      have CB := hide (unhide CF w' hb)
      clear hb CF
      go_wp2_with fail
      refine (unhide CB).mono ?_
      rintro e w1 ⟨rfl, t, ha, hs⟩
      have CC := hide (unhide CL t w1 ha hs)
      have HA := hide ha
      clear ha hs
      go_wp2_with fail
      refine (unhide CC).mono ?_
      rintro e w2 ⟨rfl, hs⟩
      have HS := hide hs
      clear hs
      go_wp2
      go_ret
      exact ⟨t, unhide HA, rfl, unhide HS⟩

theorem wrap_spec (x : Int) : ∃ q : Int, IntKind.i64.wrap x = x - q * 18446744073709551616 ∧ -9223372036854775808 ≤ IntKind.i64.wrap x ∧ IntKind.i64.wrap x < 9223372036854775808 := by
  rw [IntKind.wrap_i64]
  exact ⟨(x + 9223372036854775808) / 18446744073709551616, by omega, by omega, by omega⟩
theorem wrap_add (a : Nat) (sz : Nat) : IntKind.i64.wrap (IntKind.i64.wrap (a : Int) + (sz : Int)) = IntKind.i64.wrap ((a + sz : Nat) : Int) := by
  obtain ⟨q1, e1, _, _⟩ := wrap_spec (a : Int)
  obtain ⟨q2, e2, l2, u2⟩ := wrap_spec (IntKind.i64.wrap (a : Int) + (sz : Int))
  obtain ⟨q3, e3, l3, u3⟩ := wrap_spec ((a + sz : Nat) : Int)
  omega

/-- Behind the search: an object is laid. -/
theorem lay_st {w w1 : World} {L : HL} {t : St} (h : HSt w L t w1) (wf : WF t) {sz k : Nat} {at' : Bool} (z1 : 1 ≤ sz) (z2 : sz ≤ 1536) (zg : 16 < sz → sz % 32 = 0) (hp : t.place sz at' = some k) :
    Calls Tryd.prog 36 #[.pointer (some ⟨L.h, 0, none⟩), .int .i64 k, .int .i64 sz, .bool at'] w1 fun e w' => e = .returned (.tuple #[]) ∧ HSt w L (t.laid0 k sz at') w' := by
  obtain ⟨L1, e1, r1, i1, t1⟩ := h
  obtain ⟨hl, _⟩ := place_laid wf z1 z2 zg hp
  have := lay_any L1 t k sz at' w1 r1 z1 hl.h3 hl.h4 hl.rb
  rw [e1] at this
  refine this.mono ?_
  rintro e w' ⟨he, r, t2⟩
  exact ⟨he, L1, e1, r, i1, t1.trans t2 i1⟩
theorem laid0_rest (s : St) (k sz : Nat) (at' : Bool) : (s.laid0 k sz at').trig = s.trig ∧ (s.laid0 k sz at').since = s.since ∧ (s.laid0 k sz at').n = s.n := by
  have h1 : ∀ (s : St) (j : Nat), (layWd s k j).trig = s.trig ∧ (layWd s k j).since = s.since ∧ (layWd s k j).n = s.n := by
    intro s j
    induction j with
    | zero => exact ⟨rfl, rfl, rfl⟩
    | succ j ih => exact ih
  have h2 : ∀ (j : Nat), (layPg s (k / 32) sz at' j).trig = s.trig ∧ (layPg s (k / 32) sz at' j).since = s.since ∧ (layPg s (k / 32) sz at' j).n = s.n := by
    intro j
    induction j with
    | zero => exact ⟨rfl, rfl, rfl⟩
    | succ j ih => exact ih
  have a := h1 (layPg s (k / 32) sz at' ((sz + 31) / 32)) sz
  have b := h2 ((sz + 31) / 32)
  exact ⟨a.1.trans b.1, a.2.1.trans b.2.1, a.2.2.trans b.2.2⟩

/-- What Alloc answers, and what it leaves. -/
inductive AllocTo (sz : Nat) (at' : Bool) (t : St) (w : World) (L : HL) (e : Ending) (w' : World) : Prop
  | full : t.place sz at' = none → e = .returned (.tuple #[.int .i64 0, .int .i64 3]) → HSt w L t w' → AllocTo sz at' t w L e w'
  | ok (k : Nat) : t.place sz at' = some k → e = .returned (.tuple #[.int .i64 (1048576 + (k : Int) * 8), .int .i64 0]) → LaidTo t k sz at' (t.laid k sz at') → HSt w L (t.laid k sz at') w' → AllocTo sz at' t w L e w'

set_option maxHeartbeats 1600000 in
theorem hAlloc_by (L : HL) (s : St) (n sz : Nat) (at' : Bool) (w : World) (T : Tab w) (R : Rep w L s) (h1 : 1 ≤ n) (h2 : n ≤ s.n * 32) (hz : sizeOf' n = sz) (z1 : 1 ≤ sz) (z2 : sz ≤ 1536) (zg : 16 < sz → sz % 32 = 0)
    (A : St → Prop) (hA : ∀ t, A t → WF t ∧ t.n = s.n ∧ (t.trig ≠ 0 → t.since + sz ≤ 4096))
    (CF : Calls Tryd.prog 35 #[.pointer (some ⟨L.h, 0, none⟩), .int .i64 sz, .bool at'] w fun e w' => ∃ t, A t ∧ e = .returned (.int .i64 (optInt (t.place sz at'))) ∧ HSt w L t w') :
    Calls Tryd.prog 20 #[.pointer (some ⟨L.h, 0, none⟩), .int .i64 n, .bool at'] w fun e w' => ∃ t, A t ∧ AllocTo sz at' t w L e w' := by
  have n2 := R.n2
  have fw := R.cells.fw
  have CS := sizeFor_any n w T (by omega) (by omega)
  rw [hz] at CS
  have C1 := hide CS
  have C2 := hide CF
  have HA := hide hA
  have ZG := hide zg
  clear CS CF R hz T hA zg
  go_enter Tryd.func20, Tryd.ntmps20
  go_wp2_with (go_at_call 34; refine (unhide C1).mono ?_; rintro e w' ⟨rfl, hw⟩; rw [hw])
  refine (unhide C2).mono ?_
  rintro e w1 ⟨t, ha, rfl, hs⟩
  obtain ⟨wt, hn, hsb⟩ := unhide HA t ha
  have hnn : t.n ≤ 48 := by omega
  have AT := hide ha
  have WT := hide wt
  have HSB := hide hsb
  have HS := hide hs
  clear ha wt hsb hs fw hn
  cases hp : t.place sz at' with
  | none =>
    have HP := hide hp
    clear hp
    unfold optInt
    go_wp2_with fail
    go_ret2
    exact ⟨t, unhide AT, .full (unhide HP) rfl (unhide HS)⟩
  | some k =>
    have hk : (k : Int) ≤ 1536 := by
      have := (place_laid (unhide WT) z1 z2 (unhide ZG) hp).1.h4
      omega
    have HLT := hide (place_laid (unhide WT) z1 z2 (unhide ZG) hp).2
    have HP := hide hp
    have CL := hide (lay_st (unhide HS) (unhide WT) z1 z2 (unhide ZG) hp)
    clear hp
    unfold optInt
    have hne : ((k : Int) == -1) = false := by simp
    go_wp2_with fail
    refine (unhide CL).mono ?_
    rintro e w2 ⟨rfl, L2, e2, r2, i2, t2⟩
    obtain ⟨q1, q2, q3⟩ := laid0_rest t k sz at'
    have fs := r2.cells.fs
    have hzz := r2.cells.hz
    rw [q2] at fs
    rw [e2] at fs hzz
    have HG : Hid (∀ v : Int, v = wrap64 (wrap64 (t.since : Int) + (sz : Int)) → HSt w L (t.laid k sz at') (w2.setCell ⟨L.h, 7, none⟩ (.int .i64 v))) := by
      intro v hv
      rw [← IntWalk.i64_left, ← IntWalk.i64_left, wrap_add] at hv
      have := r2.grown sz v (by rw [q2]; exact hv) (by rw [q1, q2]; exact unhide HSB)
      rw [e2] at this
      exact ⟨L2, e2, this, i2, t2.set L.h _ _ (.inl (by simp [HL.blocks]))⟩
    have CA : Hid (∀ w1 : World, Calls Tryd.prog 37 #[.int .i64 k] w1 fun e w' => e = .returned (.int .i64 (1048576 + (k : Int) * 8)) ∧ w' = w1) := fun w1 => addressOf_any k w1 (by omega) (by omega)
    clear r2 i2 t2 e2 q1 q2 q3
    go_wp2_with fail
    refine (unhide CA _).mono ?_
    rintro e w3 ⟨rfl, rfl⟩
    go_wp2_with fail
    go_ret2
    exact ⟨t, unhide AT, .ok k (unhide HP) rfl (unhide HLT) (unhide HG _ rfl)⟩

set_option maxHeartbeats 1600000 in
/-- Alloc where no collection comes. -/
theorem hAlloc_still (L : HL) (s : St) (n sz k : Nat) (at' : Bool) (w : World) (T : Tab w) (R : Rep w L s) (wf : WF s) (h1 : 1 ≤ n) (h2 : n ≤ s.n * 32) (hz : sizeOf' n = sz) (z1 : 1 ≤ sz) (z2 : sz ≤ 1536) (hp : s.place sz at' = some k) (hl : s.LayOk k sz at') (hd : s.trig = 0 ∨ s.since + sz ≤ s.trig) :
    Calls Tryd.prog 20 #[.pointer (some ⟨L.h, 0, none⟩), .int .i64 n, .bool at'] w fun e w' => e = .returned (.tuple #[.int .i64 (1048576 + (k : Int) * 8), .int .i64 0]) ∧ Rep w' L (s.laid k sz at') ∧ Touch L.blocks w w' := by
  have n2 := R.n2
  have fw := R.cells.fw
  have CS := sizeFor_any n w T (by omega) (by omega)
  rw [hz] at CS
  have C1 := hide CS
  have C2 := hide (findRoom_still L s sz k at' w R wf.ok z1 z2 (fun d => by have := d.1; have := d.2; omega) hp)
  have HSB : Hid (s.trig ≠ 0 → s.since + sz ≤ 4096) := fun h => by have := R.tg; omega
  have CL : Hid (∀ w1, Below w.heap.size w w1 → Calls Tryd.prog 36 #[.pointer (some ⟨L.h, 0, none⟩), .int .i64 k, .int .i64 sz, .bool at'] w1 fun e w' => e = .returned (.tuple #[]) ∧ Rep w' L (s.laid0 k sz at') ∧ Touch L.blocks w w') := by
    intro w1 hb
    refine (lay_any L s k sz at' w1 (R.below hb) z1 hl.h3 hl.h4 hl.rb).mono ?_
    rintro e w' ⟨he, r, t⟩
    exact ⟨he, r, (Touch.of_below hb).trans t fun i hi => .inl hi⟩
  have hk : (k : Int) ≤ 1536 := by have := hl.h4; omega
  have hne : ((k : Int) == -1) = false := by simp
  have CA : Hid (∀ w1 : World, Calls Tryd.prog 37 #[.int .i64 k] w1 fun e w' => e = .returned (.int .i64 (1048576 + (k : Int) * 8)) ∧ w' = w1) := fun w1 => addressOf_any k w1 (by omega) (by omega)
  clear CS R wf hp hz T hl hd
  go_enter Tryd.func20, Tryd.ntmps20
  go_wp2_with (first | (go_at_call 34; refine (unhide C1).mono ?_; rintro e w' ⟨rfl, hw⟩; rw [hw]) | (go_at_call 35; refine (unhide C2).mono ?_; rintro e w' ⟨rfl, hb⟩))
  refine (unhide CL _ (by assumption)).mono ?_
  rintro e w2 ⟨rfl, r2, t2⟩
  obtain ⟨q1, q2, q3⟩ := laid0_rest s k sz at'
  have fs := r2.cells.fs
  have hzz := r2.cells.hz
  rw [q2] at fs
  have HG : Hid (∀ v : Int, v = wrap64 (wrap64 (s.since : Int) + (sz : Int)) → Rep (w2.setCell ⟨L.h, 7, none⟩ (.int .i64 v)) L (s.laid k sz at') ∧ Touch L.blocks w (w2.setCell ⟨L.h, 7, none⟩ (.int .i64 v))) := by
    intro v hv
    rw [← IntWalk.i64_left, ← IntWalk.i64_left, wrap_add] at hv
    exact ⟨r2.grown sz v (by rw [q2]; exact hv) (by rw [q1, q2]; exact unhide HSB), t2.set L.h _ _ (.inl (by simp [HL.blocks]))⟩
  clear r2 t2 q1 q2 q3
  go_wp2_with fail
  refine (unhide CA _).mono ?_
  rintro e w3 ⟨rfl, rfl⟩
  go_wp2_with fail
  go_ret2
  exact ⟨rfl, unhide HG _ rfl⟩

/-- Alloc, whatever comes ahead of it. -/
theorem hAlloc_any (L : HL) (s : St) (n sz : Nat) (at' : Bool) (w : World) (T : Tab w) (R : Rep w L s) (wf : WF s) (hc : s.colls ≤ 4611686018427387904) (h1 : 1 ≤ n) (h2 : n ≤ s.n * 32) (hz : sizeOf' n = sz) (z1 : 1 ≤ sz) (z2 : sz ≤ 1536) (zg : 16 < sz → sz % 32 = 0) :
    Calls Tryd.prog 20 #[.pointer (some ⟨L.h, 0, none⟩), .int .i64 n, .bool at'] w fun e w' => ∃ t, ((¬ s.due sz ∧ s.place sz at' ≠ none ∧ t = s) ∨ ((s.due sz ∨ s.place sz at' = none) ∧ AheadC s t)) ∧ AllocTo sz at' t w L e w' := by
  by_cases q : s.due sz ∨ s.place sz at' = none
  · refine (hAlloc_by L s n sz at' w T R h1 h2 hz z1 z2 zg (AheadC s) (fun t ht => ?_) (findRoom_coll L s sz at' w R wf hc z1 z2 q)).mono ?_
    · obtain ⟨stays, black, ag, _, _, _, rfl⟩ := ht.ex
      exact ⟨ht.wf, rfl, fun _ => by show 0 + sz ≤ 4096; omega⟩
    · rintro e w' ⟨t, ha, h⟩
      exact ⟨t, .inr ⟨q, ha⟩, h⟩
  · have q1 : ¬ s.due sz := fun h => q (.inl h)
    have q2 : s.place sz at' ≠ none := fun h => q (.inr h)
    obtain ⟨k, hk⟩ := Option.ne_none_iff_exists'.1 q2
    refine (hAlloc_by L s n sz at' w T R h1 h2 hz z1 z2 zg (fun t => t = s) (fun t ht => ?_) ?_).mono ?_
    · rw [ht]
      refine ⟨wf, rfl, fun h => ?_⟩
      have := R.tg
      by_cases c : s.since + sz ≤ s.trig
      · omega
      · exact absurd ⟨h, by omega⟩ q1
    · refine (findRoom_still L s sz k at' w R wf.ok z1 z2 q1 hk).mono ?_
      rintro e w' ⟨rfl, hb⟩
      exact ⟨s, rfl, by rw [hk]; rfl, HSt.same R hb⟩
    · rintro e w' ⟨t, rfl, h⟩
      exact ⟨t, .inl ⟨q1, q2, rfl⟩, h⟩
end Go.Proofs.YtgegkcjllliifabDoor
