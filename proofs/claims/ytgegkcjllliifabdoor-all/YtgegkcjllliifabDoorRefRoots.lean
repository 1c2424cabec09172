/-
  The walks of the reference heap's New, Push, Pop, Set, Word.
-/
import Derived.Test.YtgegkcjllliifabDoorRefPut
import Derived.Test.YtgegkcjllliifabDoorRefFind
import Derived.BigRegion
import Derived.Deep.QuietTactic
import Derived.BigQuiet
namespace Go.Proofs.YtgegkcjllliifabDoor
open Go.RowKit

theorem Tryd.infoObj : (Tryd.prog.info? 89).map (fun i => (i.zero, i.size, i.bytes)) = some (some (.agg #[.int .i64 0, .bool false, .slice none 0 0]), 3, 40) := by kernel_rfl

def Mo.init (pages stack trig : Nat) : Mo := ⟨pages, stack, trig, [], [], List.replicate pages false, 0, 0, 0⟩

theorem rl_two (w : World) (A B : Obj) : ((w.alloc A).alloc B).heap[w.heap.size]? = some A ∧ ((w.alloc A).alloc B).heap[w.heap.size + 1]? = some B ∧ Below w.heap.size w ((w.alloc A).alloc B) :=
  ⟨heap_alloc2_old w A B, heap_alloc2_new w A B, ((Below.refl _ _).alloc (Nat.le_refl _) _).alloc (by simp) _⟩

theorem ref_new {w' : World} (N : Nat) (pages stack trig : Nat) (hp : pages ≤ 48) (ha : w'.heap[N]? = some (boolRow pages))
    (hb : w'.heap[N + 1]? = some (.cells #[.int .i64 pages, .int .i64 stack, .int .i64 trig, .slice none 0 0, .slice none 0 0, .slice (some ⟨N, 0, none⟩) pages pages, .int .i64 0, .int .i64 0, .int .i64 0] 83)) :
    RefIs w' ⟨N + 1, .slice none 0 0, .slice none 0 0, .slice (some ⟨N, 0, none⟩) pages pages, []⟩ (Mo.init pages stack trig) := by
  refine ⟨hb, World.ownsRow_nil _ _ _ _, World.ownsRow_nil _ _ _ _, ⟨by simp [bools, Mo.init], .inr ⟨N, pages, _, rfl, Nat.zero_le _, ha, Nat.le_refl _, by unfold maxLen; show pages ≤ _; omega, ?_, ?_⟩⟩, fun i hi => absurd hi (by simp [Mo.init]), rfl, ?_⟩
  · rw [size_madeCells, Nat.mul_one]
  · rw [toList_madeCells_one, Nat.mul_one]
    show List.take pages _ = bools (List.replicate pages false)
    rw [bools_replicate, List.take_replicate, Nat.min_self]
  · simp [RL.blocks, Value.ownBlock]

set_option maxHeartbeats 400000 in
theorem refNew_ok (n r t : Nat) (w : World) (h1 : 1 ≤ n) (h2 : n ≤ 48) (hr1 : 1 ≤ r) (hr2 : r ≤ 16) (ht2 : t ≤ 4096) :
    Calls Tryd.prog 49 #[.int .i64 n, .int .i64 r, .int .i64 t] w fun e w' => ∃ R : RL, e = .returned (.tuple #[.pointer (some ⟨R.r, 0, none⟩), .int .i64 0]) ∧ RefIs w' R (Mo.init n r t) ∧ (∀ k, k ∈ R.blocks → w.heap.size ≤ k) ∧ Below w.heap.size w w' := by
  have mk := mkBools n (by omega)
  go_enter Tryd.func49, Tryd.ntmps49
  go_wp2
  go_ret2
  obtain ⟨f1, f2, f3⟩ := rl_two w (boolRow n) (.cells #[.int .i64 n, .int .i64 r, .int .i64 t, .slice none 0 0, .slice none 0 0, .slice (some ⟨w.heap.size, 0, none⟩) n n, .int .i64 0, .int .i64 0, .int .i64 0] 83)
  refine ⟨_, rfl, ref_new w.heap.size n r t h2 f1 f2, ?_, f3⟩
  intro k hk
  simp [RL.blocks, Value.ownBlock] at hk
  omega

set_option maxHeartbeats 400000 in
theorem refPush_full (R : RL) (m : Mo) (x : Int) (w : World) (h : RefIs w R m) (hl : 24 ≤ m.roots.length) (hl2 : m.roots.length ≤ 1000) :
    Calls Tryd.prog 72 #[.pointer (some ⟨R.r, 0, none⟩), .int .i64 x] w fun e w' => e = .returned (.int .i64 7) ∧ w' = w := by
  have fr := h.cells.2.2.2.2.1
  obtain ⟨ao, cap, hv, hc1, hc2⟩ := ownsRow_shape h.hrt
  rw [hv] at fr
  clear h hv
  go_enter Tryd.func72, Tryd.ntmps72
  go_wp2
  go_ret
  exact ⟨rfl, rfl⟩

set_option maxRecDepth 10000 in
set_option maxHeartbeats 400000 in
theorem refPush_ok (R : RL) (m : Mo) (x : Int) (w : World) (h : RefIs w R m) (hl : m.roots.length < 24) :
    Calls Tryd.prog 72 #[.pointer (some ⟨R.r, 0, none⟩), .int .i64 x] w fun e w' => e = .returned (.int .i64 0) ∧ RefTo w R { m with roots := m.roots ++ [x] } w' := by
  obtain ⟨i0, hi, hz0, hz1, hz2⟩ := info_parts Tryd.infoInt
  have fr := h.cells.2.2.2.2.1
  have hrt := (h.hrt).alloc (.cells #[.int .i64 x] 3)
  have HH := hide h
  have hlt : R.r < w.heap.size := h.lt _ (by simp [RL.blocks])
  have hnr : Hid (R.vr.ownBlock ≠ some R.r) := fun e => (h.parts.2.1 _ e).1 rfl
  obtain ⟨ao, cap, hv, hc1, hc2⟩ := ownsRow_shape h.hrt
  obtain ⟨vr, hvr⟩ : ∃ vr, R.vr = vr := ⟨_, rfl⟩
  rw [hvr] at fr hrt hv hnr
  have HV := hide hvr
  clear hvr
  subst hv
  clear h
  go_enter Tryd.func72, Tryd.ntmps72
  go_wp2_with (at_builtin; refine wpList_append_at _ rfl _ _ 41 rfl 3 i0 (.int .i64 0) 1 8 Tryd.underlying41 hi hz0 hz1 hz2 rfl (by decide) _ _ _ rfl hrt ⟨w.heap.size, 0, none⟩ 1 1 [.int .i64 x] rfl rfl ?c1 ?c2 (by decide) ?c3 ?c4 ?_)
  case c1 =>
    intro j u hj
    match j, hj with
    | 0, hj => simp at hj; subst hj; simp [Addr.add]
  case c2 => intro u hu; simp at hu; subst hu; rfl
  case c3 => unfold maxLen; omega
  case c4 => omega
  intro v' w1 ho hg hloc
  obtain ⟨ao', cap', hv', hd1, hd2⟩ := ownsRow_shape ho
  rw [hv'] at ho hloc ⊢
  clear hv'
  have HO := hide ho
  have HG := hide hg
  have HL := hide hloc
  have c1 : w1.cell? ⟨R.r, 4, none⟩ = some (.slice ao m.roots.length cap) := by
    refine hg.cell ?_ (fun e => unhide hnr e.symm)
    rw [World.cell?_alloc_lt _ _ _ hlt]; exact fr
  have c2 : w1.frozen? ⟨R.r, 4, none⟩ = false := by
    rw [World.frozen?_of_block (w := w) (a := ⟨R.r, 4, none⟩)]
    · exact (unhide HH).frozen 4
    · show w1.heap[R.r]? = _
      rw [hg.block R.r (by simp; omega) (fun e => unhide hnr e.symm)]
      exact heap_alloc_old w _ hlt
  clear ho hg hloc hrt fr
  go_wp2
  go_ret
  refine ⟨rfl, ?_⟩
  have hg := unhide HG
  refine (unhide HH).setRoots _ (m.roots ++ [x]) ?_ ?_ ?_ ?_
  · intro k hk hne
    rw [unhide HV] at hne
    rw [hg.block k (by simp; omega) (fun e => hne e.symm), heap_alloc_old w _ hk]
  · refine ⟨hg.os, hg.tape, hg.output, by have := hg.size; simp at this; omega, fun k hk hn => ?_⟩
    rw [hg.block k (by simp; omega) (fun e => hn (by rw [← unhide HV] at e; simp [RL.blocks, e.symm])), heap_alloc_old w _ hk]
  · have := unhide HO
    rw [ints_append] at this
    simpa using this
  · rcases unhide HL with e | ⟨g, e1, e2⟩
    · left; rw [unhide HV]; exact e
    · right; right; exact ⟨g, e1, by omega⟩

theorem RefTo.drew {w w' : World} {R : RL} {m : Mo} (h : RefTo w R m w') : RefTo w R m w'.drew := by
  obtain ⟨R', e, ⟨a1, a2, a3, a4, a5, a6, a7⟩, c, ⟨d1, d2, d3, d4, d5⟩⟩ := h
  exact ⟨R', e, ⟨a1, a2, a3, a4, a5, a6, a7⟩, c, ⟨d1, d2, d3, d4, d5⟩⟩
theorem RefTo.alike {w w' w'' : World} {R : RL} {m : Mo} (h : RefTo w R m w') (e1 : w''.heap = w'.heap) (e2 : w''.os = w'.os) (e3 : w''.tape = w'.tape) (e4 : w''.output = w'.output) : RefTo w R m w'' := by
  obtain ⟨R', e, b, c, ⟨d1, d2, d3, d4, d5⟩⟩ := h
  exact ⟨R', e, b.agree (fun k _ => by rw [e1]), c, ⟨e2.trans d1, e3.trans d2, e4.trans d3, by rw [e1]; exact d4, fun k hk hn => by rw [e1]; exact d5 k hk hn⟩⟩
theorem RefIs.drew {w : World} {R : RL} {m : Mo} (h : RefIs w R m) : RefIs w.drew R m := ⟨h.hr, h.ho, h.hrt, h.hb, h.hw, h.len, h.nd⟩

set_option maxHeartbeats 400000 in
theorem refPop_none (R : RL) (m : Mo) (w : World) (h : RefIs w R m) (hl : m.roots = []) :
    Calls Tryd.prog 73 #[.pointer (some ⟨R.r, 0, none⟩)] w fun e w' => e = .returned (.tuple #[.int .i64 0, .int .i64 8]) ∧ w' = w := by
  have fr := h.cells.2.2.2.2.1
  obtain ⟨ao, cap, hv, hc1, hc2⟩ := ownsRow_shape h.hrt
  rw [hv, hl] at fr
  clear h hv hc1 hl
  go_enter Tryd.func73, Tryd.ntmps73
  go_wp2
  go_ret2
  exact ⟨rfl, rfl⟩

theorem roots_split (l : List Int) (q : Nat) (h : l.length = q + 1) : l.take q ++ [l.getD q 0] = l := by
  have : l.getD q 0 = l[q] := by rw [List.getD_eq_getElem?_getD, List.getElem?_eq_getElem (by omega)]; rfl
  rw [this, ← List.take_succ_eq_append_getElem (by omega), List.take_of_length_le (by omega)]

set_option maxHeartbeats 800000 in
theorem refPop_ok (R : RL) (m : Mo) (q : Nat) (w : World) (h : RefIs w R m) (hl : m.roots.length = q + 1) (hq : q < 1000) :
    Calls Tryd.prog 73 #[.pointer (some ⟨R.r, 0, none⟩)] w fun e w' => e = .returned (.tuple #[.int .i64 (m.roots.getD q 0), .int .i64 0]) ∧ RefTo w R { m with roots := m.roots.take q } w' := by
  have fr := h.cells.2.2.2.2.1
  obtain ⟨g, cap, hv, hg, hc1, hc2, c0⟩ := h.root q (by omega)
  have e0 : m.roots[q]'(by omega) = m.roots.getD q 0 := by rw [List.getD_eq_getElem?_getD, List.getElem?_eq_getElem (by omega)]; rfl
  rw [e0] at c0
  generalize m.roots.getD q 0 = x at c0 ⊢
  rw [hv, hl] at fr
  have z0 := h.frozen 4
  have HF : Hid (RefTo w R { m with roots := m.roots.take q } (w.setCell ⟨R.r, 4, none⟩ (.slice (some ⟨g, 0, none⟩) q cap))) := by
    refine h.setRoots _ (m.roots.take q) (fun _ _ _ => rfl) (Touch.refl _ _) ?_ (.inl (by rw [hv]; rfl))
    have ho := h.hrt
    rw [hv] at ho
    have := own_take (q := q) ho (by omega)
    rw [List.length_take, Nat.min_eq_left (by omega)]
    simpa [ints] using this
  rw [hl] at hc1
  unfold maxLen at hc2
  clear h hv hl e0
  have i1 : ((q : Int) + 1 == 0) = false := by simp; omega
  go_enter Tryd.func73, Tryd.ntmps73
  go_wp2_with fail
  go_quiet (fail)
  go_wp2_with fail
  go_region
  all_goals go_wp2
  all_goals go_ret2
  all_goals exact ⟨rfl, (unhide HF).alike rfl rfl rfl rfl⟩

set_option maxHeartbeats 400000 in
theorem refSet_none (R : RL) (m : Mo) (i x : Int) (w : World) (h : RefIs w R m) (hi : i < 0 ∨ (m.roots.length : Int) ≤ i) :
    Calls Tryd.prog 74 #[.pointer (some ⟨R.r, 0, none⟩), .int .i64 i, .int .i64 x] w fun e w' => e = .returned (.int .i64 9) ∧ w' = w := by
  have fr := h.cells.2.2.2.2.1
  obtain ⟨ao, cap, hv, hc1, hc2⟩ := ownsRow_shape h.hrt
  rw [hv] at fr
  clear h hv
  by_cases c : i < 0
  · go_enter Tryd.func74, Tryd.ntmps74
    go_wp2
    go_ret
    exact ⟨rfl, rfl⟩
  · have c' : (m.roots.length : Int) ≤ i := by omega
    clear hi
    go_enter Tryd.func74, Tryd.ntmps74
    go_wp2
    go_ret
    exact ⟨rfl, rfl⟩

/-- A word of the roots' row is turned. -/
theorem RefIs.storeRoot {w : World} {R : RL} {m : Mo} (h : RefIs w R m) {g cap : Nat} (hv : R.vr = .slice (some ⟨g, 0, none⟩) m.roots.length cap) (i : Nat) (x : Int) :
    RefTo w R { m with roots := m.roots.set i x } (w.setCell ⟨g, i, none⟩ (.int .i64 x)) := by
  obtain ⟨p1, p2, p3, p4, p5⟩ := h.parts
  have hvg : R.vr.ownBlock = some g := by rw [hv]; rfl
  have ho := h.hrt
  rw [hv] at ho
  obtain ⟨s1, s2⟩ := ho.stored i (.int .i64 x)
  have keep : ∀ k, k ≠ g → (w.setCell ⟨g, i, none⟩ (.int .i64 x)).heap[k]? = w.heap[k]? := fun k hk => heap_setCell_other w ⟨g, i, none⟩ k _ hk
  refine ⟨R, rfl, ⟨?_, ?_, ?_, ?_, ?_, h.len, h.nd⟩, fun k hk => .inl hk, ⟨rfl, rfl, rfl, by simp, fun k _ hk => keep k fun e => hk (by subst e; simp [RL.blocks, hvg])⟩⟩
  · rw [keep R.r fun e => (p2 g hvg).1 e.symm]; exact h.hr
  · exact ownsRow_agree h.ho fun k hk => keep k fun e => (p1 k hk).2.1 (by rw [e]; exact hvg)
  · rw [hv]
    show World.ownsRow _ _ _ _ _ (m.roots.set i x).length (ints (m.roots.set i x))
    rw [List.length_set, ← ints_set]
    exact s1
  · exact ownsRow_agree h.hb fun k hk => keep k fun e => (p3 k hk).2.2.1 (by rw [e]; exact hvg)
  · intro j hj
    have hm : R.wAt j ∈ R.wb := getD_mem R.wb j (by rw [h.len]; exact hj)
    rw [keep _ fun e => (p4 _ hm).2.2.1 (by rw [e]; exact hvg)]
    exact h.hw j hj

set_option maxHeartbeats 400000 in
theorem refSet_ok (R : RL) (m : Mo) (i : Nat) (x : Int) (w : World) (h : RefIs w R m) (hi : i < m.roots.length) :
    Calls Tryd.prog 74 #[.pointer (some ⟨R.r, 0, none⟩), .int .i64 i, .int .i64 x] w fun e w' => e = .returned (.int .i64 0) ∧ RefTo w R { m with roots := m.roots.set i x } w' := by
  have fr := h.cells.2.2.2.2.1
  obtain ⟨g, cap, hv, hg, hc1, hc2, c0⟩ := h.root i hi
  have HF := hide (h.storeRoot hv i x)
  have z0 : w.frozen? ⟨g, i, none⟩ = false := by
    have ho := h.hrt
    rw [hv] at ho
    exact ho.frozenAt i
  rw [hv] at fr
  unfold maxLen at hc2
  clear h hv
  go_enter Tryd.func74, Tryd.ntmps74
  go_wp2
  go_ret
  exact ⟨rfl, unhide HF⟩

set_option maxHeartbeats 400000 in
theorem word_align (R : RL) (a : Int) (w : World) (ha : a % 8 ≠ 0) :
    Calls Tryd.prog 68 #[.pointer (some ⟨R.r, 0, none⟩), .int .i64 a] w fun e w' => e = .returned (.tuple #[.int .i64 0, .int .i64 0, .int .i64 4]) ∧ w' = w := by
  have h1 : (a.tmod 8 == 0) = false := by
    rw [beq_eq_false_iff_ne]; exact fun e => ha ((tmod8 a).1 e)
  by_cases c : 0 ≤ a
  · have h2 : (a % 8 == 0) = false := by rw [beq_eq_false_iff_ne]; exact ha
    clear h1 ha
    go_enter Tryd.func68, Tryd.ntmps68
    go_wp2
    go_ret3
    exact ⟨rfl, rfl⟩
  · clear ha
    go_enter Tryd.func68, Tryd.ntmps68
    go_wp2
    go_ret3
    exact ⟨rfl, rfl⟩
end Go.Proofs.YtgegkcjllliifabDoor
