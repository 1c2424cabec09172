/-
  What a collection marks: its memory, and the walks of atomicAt, note and follow.
-/
import Derived.Test.YtgegkcjllliifabDoorHRoots
namespace Go.Proofs.YtgegkcjllliifabDoor
open Go.RowKit

/-- A collection under way: where it lies; what it holds. -/
structure ML where
  m : Nat
  sb : Nat
  kb : Nat
  vw : Value
structure Ms where
  stays : Nat → Bool
  black : Nat → Bool
  work : List Nat
  missed : Bool

def nats (l : List Nat) : List Value := l.map fun (k : Nat) => Value.int .i64 k
def mcells (L : HL) (s : St) (M : ML) (m : Ms) : Array Value := #[.pointer (some ⟨L.h, 0, none⟩), .slice (some ⟨M.sb, 0, none⟩) (s.n * 32) (s.n * 32), .slice (some ⟨M.kb, 0, none⟩) s.n s.n, M.vw, .bool m.missed]

/-- B: memory is the collection's own from block B on. -/
structure MRep (B : Nat) (w : World) (L : HL) (s : St) (M : ML) (m : Ms) : Prop where
  rep : Rep w L s
  hm : w.heap[M.m]? = some (.cells (mcells L s M m) 67 (0, 0))
  hs : w.heap[M.sb]? = some (.cells (fcells (s.n * 32) fun k => .bool (m.stays k)) 4 (0, 0))
  hk : w.heap[M.kb]? = some (.cells (fcells s.n fun k => .bool (m.black k)) 4 (0, 0))
  hv : w.ownsRow 0 3 1 M.vw m.work.length (nats m.work)
  ne1 : M.m ≠ M.sb
  ne2 : M.m ≠ M.kb
  ne3 : M.sb ≠ M.kb
  vn : ∀ k, M.vw.ownBlock = some k → k ≠ M.m ∧ k ≠ M.sb ∧ k ≠ M.kb
  bm : B ≤ M.m
  bs : B ≤ M.sb
  bk : B ≤ M.kb
  bv : ∀ k, M.vw.ownBlock = some k → B ≤ k
  old : ∀ k, k ∈ L.blocks → k < B

structure MCells (w : World) (L : HL) (s : St) (M : ML) (m : Ms) : Prop where
  c0 : w.cell? ⟨M.m, 0, none⟩ = some (.pointer (some ⟨L.h, 0, none⟩))
  c1 : w.cell? ⟨M.m, 1, none⟩ = some (.slice (some ⟨M.sb, 0, none⟩) (s.n * 32) (s.n * 32))
  c2 : w.cell? ⟨M.m, 2, none⟩ = some (.slice (some ⟨M.kb, 0, none⟩) s.n s.n)
  c3 : w.cell? ⟨M.m, 3, none⟩ = some M.vw
  c4 : w.cell? ⟨M.m, 4, none⟩ = some (.bool m.missed)
  mz : ∀ k, w.frozen? ⟨M.m, k, none⟩ = false
  ss : ∀ k, k < s.n * 32 → w.cell? ⟨M.sb, k, none⟩ = some (.bool (m.stays k))
  sz : ∀ k, w.frozen? ⟨M.sb, k, none⟩ = false
  ks : ∀ k, k < s.n → w.cell? ⟨M.kb, k, none⟩ = some (.bool (m.black k))
  kz : ∀ k, w.frozen? ⟨M.kb, k, none⟩ = false
  l1 : M.m < w.heap.size
  l2 : M.sb < w.heap.size
  l3 : M.kb < w.heap.size

theorem MRep.cells {B : Nat} {w : World} {L : HL} {s : St} {M : ML} {m : Ms} (h : MRep B w L s M m) : MCells w L s M m := by
  have hm := h.hm
  refine ⟨?_, ?_, ?_, ?_, ?_, fun k => frozen_of_row w _ k _ _ h.hm, fun k hk => ?_, fun k => frozen_of_row w _ k _ _ h.hs, fun k hk => ?_, fun k => frozen_of_row w _ k _ _ h.hk, heap_lt h.hm, heap_lt h.hs, heap_lt h.hk⟩
  · rw [cell_of_row w M.m _ _ _ _ hm]; rfl
  · rw [cell_of_row w M.m _ _ _ _ hm]; rfl
  · rw [cell_of_row w M.m _ _ _ _ hm]; rfl
  · rw [cell_of_row w M.m _ _ _ _ hm]; rfl
  · rw [cell_of_row w M.m _ _ _ _ hm]; rfl
  · rw [cell_of_row w M.sb _ _ _ _ h.hs, fcells_at _ _ _ hk]
  · rw [cell_of_row w M.kb _ _ _ _ h.hk, fcells_at _ _ _ hk]

/-- What only makes memory leaves it. -/
theorem MRep.below {B : Nat} {w w' : World} {L : HL} {s : St} {M : ML} {m : Ms} (h : MRep B w L s M m) (hB : Below w.heap.size w w') : MRep B w' L s M m :=
  ⟨h.rep.below hB, by rw [hB.block _ (heap_lt h.hm)]; exact h.hm, by rw [hB.block _ (heap_lt h.hs)]; exact h.hs, by rw [hB.block _ (heap_lt h.hk)]; exact h.hk, ownsRow_agree h.hv fun k hk => hB.block k (h.hv.lt k hk).2,
    h.ne1, h.ne2, h.ne3, h.vn, h.bm, h.bs, h.bk, h.bv, h.old⟩
theorem MRep.drew {B : Nat} {w : World} {L : HL} {s : St} {M : ML} {m : Ms} (h : MRep B w L s M m) : MRep B w.drew L s M m := h.below (Below.refl _ _).drew

theorem below_drewN (b : Nat) (w : World) (q : Nat) : Below b w (w.drewN q) := ⟨rfl, rfl, rfl, Nat.le_refl _, fun _ _ => rfl⟩
theorem MRep.drewN {B : Nat} {w : World} {L : HL} {s : St} {M : ML} {m : Ms} (h : MRep B w L s M m) (q : Nat) : MRep B (w.drewN q) L s M m := h.below (below_drewN _ _ _)

theorem below_setB (B : Nat) (w : World) (g o : Nat) (v : Value) (h : B ≤ g) : Below B w (w.setCell ⟨g, o, none⟩ v) := ⟨rfl, rfl, rfl, by simp, fun k hk => set_heap_other _ _ _ _ _ (by omega)⟩

def Ms.stay (m : Ms) (k : Nat) : Ms := { m with stays := upd m.stays k true }
def Ms.dark (m : Ms) (p : Nat) : Ms := { m with black := upd m.black p true }
def Ms.miss (m : Ms) : Ms := { m with missed := true }

theorem MRep.setStay {B : Nat} {w : World} {L : HL} {s : St} {M : ML} {m : Ms} (h : MRep B w L s M m) (k : Nat) : MRep B (w.setCell ⟨M.sb, k, none⟩ (.bool true)) L s M (m.stay k) := by
  have e := h.bs
  refine ⟨h.rep.agree fun q hq => set_heap_other _ _ _ _ _ (by have := h.old q hq; omega), ?_, ?_, ?_, ?_, h.ne1, h.ne2, h.ne3, h.vn, h.bm, h.bs, h.bk, h.bv, h.old⟩
  · rw [set_heap_other _ _ _ _ _ h.ne1]; exact h.hm
  · rw [heap_setCell_same w M.sb k _ _ _ h.hs, fcells_set]
    congr 2
    exact fcells_congr fun q _ => by simp only [Ms.stay, upd]; split <;> rfl
  · rw [set_heap_other _ _ _ _ _ (Ne.symm h.ne3)]; exact h.hk
  · exact ownsRow_agree h.hv fun q hq => set_heap_other _ _ _ _ _ (h.vn q hq).2.1
theorem MRep.setDark {B : Nat} {w : World} {L : HL} {s : St} {M : ML} {m : Ms} (h : MRep B w L s M m) (k : Nat) : MRep B (w.setCell ⟨M.kb, k, none⟩ (.bool true)) L s M (m.dark k) := by
  have e := h.bk
  refine ⟨h.rep.agree fun q hq => set_heap_other _ _ _ _ _ (by have := h.old q hq; omega), ?_, ?_, ?_, ?_, h.ne1, h.ne2, h.ne3, h.vn, h.bm, h.bs, h.bk, h.bv, h.old⟩
  · rw [set_heap_other _ _ _ _ _ h.ne2]; exact h.hm
  · rw [set_heap_other _ _ _ _ _ h.ne3]; exact h.hs
  · rw [heap_setCell_same w M.kb k _ _ _ h.hk, fcells_set]
    congr 2
    exact fcells_congr fun q _ => by simp only [Ms.dark, upd]; split <;> rfl
  · exact ownsRow_agree h.hv fun q hq => set_heap_other _ _ _ _ _ (h.vn q hq).2.2
theorem MRep.setMissed {B : Nat} {w : World} {L : HL} {s : St} {M : ML} {m : Ms} (h : MRep B w L s M m) (b : Bool) : MRep B (w.setCell ⟨M.m, 4, none⟩ (.bool b)) L s M { m with missed := b } := by
  have e := h.bm
  refine ⟨h.rep.agree fun q hq => set_heap_other _ _ _ _ _ (by have := h.old q hq; omega), ?_, ?_, ?_, ?_, h.ne1, h.ne2, h.ne3, h.vn, h.bm, h.bs, h.bk, h.bv, h.old⟩
  · rw [heap_setCell_same w M.m 4 _ _ _ h.hm]; rfl
  · rw [set_heap_other _ _ _ _ _ (Ne.symm h.ne1)]; exact h.hs
  · rw [set_heap_other _ _ _ _ _ (Ne.symm h.ne2)]; exact h.hk
  · exact ownsRow_agree h.hv fun q hq => set_heap_other _ _ _ _ _ (h.vn q hq).1
/-- The list of work is replaced. -/
theorem MRep.setWork {B : Nat} {w w1 : World} {L : HL} {s : St} {M : ML} {m : Ms} (h : MRep B w L s M m) (v' : Value) (work' : List Nat) (ha : ∀ k, k < w.heap.size → M.vw.ownBlock ≠ some k → w1.heap[k]? = w.heap[k]?)
    (ho : w1.ownsRow 0 3 1 v' work'.length (nats work')) (hl : v'.ownBlock = M.vw.ownBlock ∨ ∃ g, v'.ownBlock = some g ∧ w.heap.size ≤ g) : MRep B (w1.setCell ⟨M.m, 3, none⟩ v') L s { M with vw := v' } { m with work := work' } := by
  have c := h.cells
  have e := h.bm
  have hv : ∀ k, v'.ownBlock = some k → k ≠ M.m ∧ k ≠ M.sb ∧ k ≠ M.kb ∧ B ≤ k := by
    intro k hk
    rcases hl with e | ⟨g, e1, e2⟩
    · rw [e] at hk; exact ⟨(h.vn k hk).1, (h.vn k hk).2.1, (h.vn k hk).2.2, h.bv k hk⟩
    · rw [e1] at hk
      cases hk
      have := c.l1; have := c.l2; have := c.l3
      omega
  refine ⟨h.rep.agree fun q hq => ?_, ?_, ?_, ?_, ?_, h.ne1, h.ne2, h.ne3, fun k hk => ⟨(hv k hk).1, (hv k hk).2.1, (hv k hk).2.2.1⟩, h.bm, h.bs, h.bk, fun k hk => (hv k hk).2.2.2, h.old⟩
  · have := h.old q hq
    rw [set_heap_other _ _ _ _ _ (by omega), ha q (h.rep.lt q hq) (fun e => by have := h.bv q e; omega)]
  · have hm1 : w1.heap[M.m]? = some (.cells (mcells L s M m) 67 (0, 0)) := by rw [ha M.m c.l1 (fun e => (h.vn _ e).1 rfl)]; exact h.hm
    show (w1.setCell ⟨M.m, 3, none⟩ v').heap[M.m]? = _
    rw [heap_setCell_same w1 M.m 3 _ _ v' hm1]
    rfl
  · show (w1.setCell ⟨M.m, 3, none⟩ v').heap[M.sb]? = _
    rw [set_heap_other _ _ _ _ _ (Ne.symm h.ne1), ha M.sb c.l2 (fun e => (h.vn _ e).2.1 rfl)]; exact h.hs
  · show (w1.setCell ⟨M.m, 3, none⟩ v').heap[M.kb]? = _
    rw [set_heap_other _ _ _ _ _ (Ne.symm h.ne2), ha M.kb c.l3 (fun e => (h.vn _ e).2.2 rfl)]; exact h.hk
  · exact ownsRow_agree ho fun k hk => set_heap_other _ _ _ _ _ (hv k hk).1

/-- A step of the marking: what it holds now; below B nothing has turned. -/
def MTo (B : Nat) (w : World) (L : HL) (s : St) (M : ML) (m' : Ms) (w' : World) : Prop := ∃ M' : ML, M'.m = M.m ∧ MRep B w' L s M' m' ∧ Below B w w'
theorem MTo.trans {B : Nat} {w w1 w2 : World} {L : HL} {s : St} {M M1 : ML} {m2 : Ms} (e : M1.m = M.m) (b : Below B w w1) (h : MTo B w1 L s M1 m2 w2) : MTo B w L s M m2 w2 := by
  obtain ⟨M2, e2, r2, b2⟩ := h
  exact ⟨M2, e2.trans e, r2, b.trans b2⟩

set_option maxHeartbeats 400000 in
theorem atomicAt_any (L : HL) (s : St) (k : Nat) (w : World) (R : Rep w L s) (hk : k / 32 < s.n) :
    Calls Tryd.prog 62 #[.pointer (some ⟨L.h, 0, none⟩), .int .i64 k] w fun e w' => e = .returned (.bool (s.atom (k / 32))) ∧ w' = w := by
  have n2 := R.n2
  have fp := R.cells.fp
  have pa := R.cells.pa (k / 32) hk
  clear R
  go_enter Tryd.func62, Tryd.ntmps62
  go_wp2
  go_ret
  exact ⟨rfl, rfl⟩

/-- note: an object goes on the list of work, if there is room. -/
def Ms.note (m : Ms) (room k : Nat) : Ms := if room ≤ m.work.length then { m with missed := true } else { m with work := m.work ++ [k] }

theorem nats_append (l : List Nat) (x : Nat) : nats l ++ [Value.int .i64 (x : Int)] = nats (l ++ [x]) := by simp [nats]

set_option maxHeartbeats 800000 in
theorem note_any (B : Nat) (L : HL) (s : St) (M : ML) (m : Ms) (k : Nat) (w : World) (h : MRep B w L s M m) (hl : m.work.length ≤ 16) :
    Calls Tryd.prog 84 #[.pointer (some ⟨M.m, 0, none⟩), .int .i64 k] w fun e w' => e = .returned (.tuple #[]) ∧ MTo B w L s M (m.note s.room k) w' := by
  have rm := h.rep.rm
  have c := h.cells
  have c0 := c.c0
  have c3 := c.c3
  have c4 := c.c4
  have mz := c.mz
  have fm := h.rep.cells.fm
  have lm := c.l1
  obtain ⟨ao, cap, hv, hc1, hc2⟩ := ownsRow_shape h.hv
  unfold maxLen at hc2
  by_cases cr : s.room ≤ m.work.length
  · have HN : Hid (m.note s.room k = { m with missed := true }) := if_pos cr
    have HH := hide h
    rw [hv] at c3
    clear h hv c
    go_enter Tryd.func84, Tryd.ntmps84
    go_wp2_with fail
    go_quiet (fail)
    all_goals go_wp2
    all_goals refine bodyPost_ret (results_none rfl _ _ _) rfl ?_
    all_goals exact ⟨rfl, M, rfl, by rw [unhide HN]; exact (((unhide HH).drewN _).setMissed true), (below_drewN _ _ _).trans ⟨rfl, rfl, rfl, by simp, fun q hq => set_heap_other _ _ _ _ _ (by have := (unhide HH).bm; omega)⟩⟩
  · have HN : Hid (m.note s.room k = { m with work := m.work ++ [k] }) := if_neg cr
    obtain ⟨i0, hi, hz0, hz1, hz2⟩ := info_parts Tryd.infoInt
    have hrt := (h.hv).alloc (.cells #[.int .i64 (k : Int)] 3)
    have HH := hide h
    have hnr : Hid (M.vw.ownBlock ≠ some M.m) := fun e => (h.vn _ e).1 rfl
    obtain ⟨vr, hvr⟩ : ∃ vr, M.vw = vr := ⟨_, rfl⟩
    rw [hvr] at c3 hrt hv hnr
    have HV := hide hvr
    clear hvr
    subst hv
    clear h c c4
    go_enter Tryd.func84, Tryd.ntmps84
    go_wp2_with fail
    go_quiet (fail)
    all_goals go_wp2_with (at_builtin; refine stop ?_)
    all_goals refine hide (wpList_append_at _ rfl _ _ 41 rfl 3 i0 (.int .i64 0) 1 8 Tryd.underlying41 hi hz0 hz1 hz2 rfl (by decide) (.slice ao m.work.length cap) m.work.length (nats m.work) rfl hrt.drew ⟨w.heap.size, 0, none⟩ 1 1 [.int .i64 (k : Int)] rfl rfl ?c1 ?c2 (by decide) (by unfold maxLen; omega) (by omega) ?_)
    case c1 =>
      intro j u hj
      match j, hj with
      | 0, hj => simp at hj; subst hj; exact cell_of_row ((w.drewN nq).alloc (.cells #[.int .i64 (k : Int)] 3)) w.heap.size 0 _ _ _ (heap_alloc_new (w.drewN nq) _)
    case c2 => intro u hu; simp at hu; subst hu; rfl
    intro v' w1 ho hg hloc
    obtain ⟨ao', cap', hv', hd1, hd2⟩ := ownsRow_shape ho
    rw [hv'] at ho hloc ⊢
    clear hv'
    have HF : Hid (MRep B (w1.setCell ⟨M.m, 3, none⟩ (.slice ao' (m.work.length + 1) cap')) L s { M with vw := .slice ao' (m.work.length + 1) cap' } { m with work := m.work ++ [k] }) := by
      refine ((unhide HH).drewN nq).setWork _ (m.work ++ [k]) ?_ ?_ ?_
      · intro q hq hne
        have hq' : q < w.heap.size := hq
        rw [unhide HV] at hne
        rw [hg.block q (by simp; omega) (fun e => hne e.symm), heap_alloc_old (w.drewN nq) _ hq]
      · rw [nats_append] at ho
        simpa using ho
      · rw [unhide HV]
        exact hloc.elim .inl fun ⟨g, e1, e2⟩ => .inr ⟨g, e1, by simp at e2; show w.heap.size ≤ g; omega⟩
    have HB : Hid (Below B w (w1.setCell ⟨M.m, 3, none⟩ (.slice ao' (m.work.length + 1) cap'))) := by
      refine ⟨hg.os, hg.tape, hg.output, by have := hg.size; simp at this ⊢; omega, fun q hq => ?_⟩
      have b1 := (unhide HH).bm
      have b2 := (unhide HH).bv
      rw [unhide HV] at b2
      rw [set_heap_other _ _ _ _ _ (by omega), hg.block q (by simp; omega) (fun e => by have := b2 q e.symm; omega), heap_alloc_old (w.drewN nq) _ (show q < w.heap.size by omega)]
      rfl
    have c1 : w1.cell? ⟨M.m, 3, none⟩ = some (.slice ao m.work.length cap) := by
      refine hg.cell ?_ (fun e => unhide hnr e.symm)
      rw [World.cell?_alloc_lt _ _ _ (show M.m < (w.drewN nq).heap.size from lm)]; exact c3
    have c2 : w1.frozen? ⟨M.m, 3, none⟩ = false := by
      rw [World.frozen?_of_block (w := w) (a := ⟨M.m, 3, none⟩)]
      · exact mz 3
      · show w1.heap[M.m]? = _
        rw [hg.block M.m (by simp; omega) (fun e => unhide hnr e.symm)]
        exact heap_alloc_old (w.drewN nq) _ lm
    clear ho hg hloc hrt c3 c0 fm mz
    go_wp2
    go_end0
    exact ⟨rfl, { M with vw := .slice ao' (m.work.length + 1) cap' }, rfl, by rw [unhide HN]; exact unhide HF, unhide HB⟩

/-- follow: the object that lies at a stays; if there is none, the page is black. -/
def Ms.follow (m : Ms) (s : St) (a : Int) : Ms :=
  if 1048576 ≤ a ∧ a < 1048576 + 256 * (s.n : Int) then
    match s.at a with
    | none => m.dark (((a - 1048576) / 8).toNat / 32)
    | some k => if m.stays k then m else if s.atom (k / 32) then m.stay k else (m.stay k).note s.room k
  else m

set_option maxHeartbeats 1600000 in
theorem follow_any (B : Nat) (L : HL) (s : St) (M : ML) (m : Ms) (a : Int) (w : World) (h : MRep B w L s M m) (ok : s.ok) (hB : B ≤ w.heap.size) (hl : m.work.length ≤ 16) :
    Calls Tryd.prog 60 #[.pointer (some ⟨M.m, 0, none⟩), .int .i64 a] w fun e w' => e = .returned (.tuple #[]) ∧ MTo B w L s M (m.follow s a) w' := by
  have n2 := h.rep.n2
  have c0 := h.cells.c0
  have hf : m.follow s a = m.follow s a := rfl
  conv at hf => rhs; unfold Ms.follow
  by_cases hin : 1048576 ≤ a ∧ a < 1048576 + 256 * (s.n : Int)
  · rw [if_pos hin] at hf
    have CW := hide (within_in L s a w h.rep hin.1 hin.2)
    have CO := objectAt_any L s a w h.rep ok
    cases hat : s.at a with
    | none =>
      rw [hat] at hf CO
      have CO' := hide CO
      unfold optInt at CO'
      have HF := hide hf
      have HH := hide h
      obtain ⟨k, hk⟩ : ∃ k : Nat, (a - 1048576) / 8 = k := ⟨((a - 1048576) / 8).toNat, by omega⟩
      have ek : ((a - 1048576) / 8).toNat = k := by omega
      have hkp : k / 32 < s.n := by omega
      have CA : Hid (∀ w1 : World, Calls Tryd.prog 40 #[.int .i64 a] w1 fun e w' => e = .returned (.int .i64 k) ∧ w' = w1) := fun w1 => wordAt_nat a k w1 hin.1 (by omega) hk
      rw [ek] at HF
      obtain ⟨p, hp⟩ : ∃ p, k / 32 = p := ⟨_, rfl⟩
      rw [hp] at hkp HF
      have hk0 : (0 : Int) ≤ (k : Int) := by omega
      have hp0 : (0 : Int) ≤ (p : Int) := by omega
      have hp1 : (p : Int) < (s.n : Int) := by omega
      have hpi : (k : Int) / 32 = (p : Int) := by omega
      have hkb : (k : Int) ≤ 2000 := by omega
      have htd : (k : Int).tdiv 32 = (p : Int) := by rw [Int.tdiv_eq_ediv_of_nonneg hk0]; exact hpi
      have hwp : IntKind.i64.wrap (p : Int) = (p : Int) := by go_unwrap
      clear hp hpi
      clear h hf CO hat hk ek hin ok
      go_enter Tryd.func60, Tryd.ntmps60
      go_wp2_with (first | (go_at_call 59; refine (unhide CW).mono ?_; rintro e w1 ⟨rfl, rfl⟩) | (go_at_call 38; refine (unhide CO').mono ?_; rintro e w2 ⟨rfl, hb⟩; have H2 := hide ((unhide HH).below hb); have HB2 := hide (hb.mono hB); have c2 := (unhide H2).cells.c2; have kz := (unhide H2).cells.kz; have ks := (unhide H2).cells.ks p hkp; clear hb))
      go_region_with ((go_at_call 40; refine (unhide CA _).mono ?_; rintro e w' ⟨rfl, rfl⟩))
      all_goals go_wp2
      all_goals refine bodyPost_ret (results_none rfl _ _ _) rfl ?_
      all_goals exact ⟨rfl, M, rfl, by rw [unhide HF]; exact ((unhide H2).setDark p).drew, ((unhide HB2).trans (below_setB B w2 M.kb p _ (unhide HH).bk)).drew⟩
    | some k =>
      rw [hat] at hf CO
      have CO' := hide CO
      unfold optInt at CO'
      have hlt := St.at_lt ok hat
      obtain ⟨b, hb⟩ : ∃ b, m.stays k = b := ⟨_, rfl⟩
      obtain ⟨t, ht⟩ : ∃ t, s.atom (k / 32) = t := ⟨_, rfl⟩
      have hz : ((k : Int) == -1) = false := by simp
      dsimp only at hf
      rw [hb, ht] at hf
      have HF := hide hf
      have HH := hide h
      have HBS := hide hb
      have HAT := hide ht
      clear h hf CO hat hin ok hb ht
      cases b
      · cases t
        · go_enter Tryd.func60, Tryd.ntmps60
          go_wp2_with (first | (go_at_call 59; refine (unhide CW).mono ?_; rintro e w1 ⟨rfl, rfl⟩) | (go_at_call 38; refine (unhide CO').mono ?_; rintro e w2 ⟨rfl, hb⟩; have H2 := hide ((unhide HH).below hb); have HB2 := hide (hb.mono hB); have c1 := (unhide H2).cells.c1; have sz := (unhide H2).cells.sz; have ss := (unhide H2).cells.ss k hlt.1; rw [unhide HBS] at ss; have d0 := (unhide H2).cells.c0; have nn := (unhide HH).ne1; clear hb) | (go_at_call 62; refine (atomicAt_any L s k _ ((unhide H2).setStay k).rep hlt.2).mono ?_; rintro e w' ⟨rfl, rfl⟩; rw [unhide HAT]) | (go_at_call 84; refine (note_any B L s M (m.stay k) k _ ((unhide H2).setStay k) hl).mono ?_; rintro e w' ⟨rfl, hto⟩))
          go_end0
          refine ⟨rfl, ?_⟩
          rw [unhide HF]
          have b3 : Below B w1 (w2.setCell ⟨M.sb, k, none⟩ (.bool true)) := (unhide HB2).trans (below_setB B w2 M.sb k _ (unhide HH).bs)
          exact MTo.trans rfl b3 hto
        · go_enter Tryd.func60, Tryd.ntmps60
          go_wp2_with (first | (go_at_call 59; refine (unhide CW).mono ?_; rintro e w1 ⟨rfl, rfl⟩) | (go_at_call 38; refine (unhide CO').mono ?_; rintro e w2 ⟨rfl, hb⟩; have H2 := hide ((unhide HH).below hb); have HB2 := hide (hb.mono hB); have c1 := (unhide H2).cells.c1; have sz := (unhide H2).cells.sz; have ss := (unhide H2).cells.ss k hlt.1; rw [unhide HBS] at ss; have d0 := (unhide H2).cells.c0; have nn := (unhide HH).ne1; clear hb) | (go_at_call 62; refine (atomicAt_any L s k _ ((unhide H2).setStay k).rep hlt.2).mono ?_; rintro e w' ⟨rfl, rfl⟩; rw [unhide HAT]))
          go_end0
          refine ⟨rfl, M, rfl, ?_, (unhide HB2).trans (below_setB B w2 M.sb k _ (unhide HH).bs)⟩
          rw [unhide HF]
          exact (unhide H2).setStay k
      · go_enter Tryd.func60, Tryd.ntmps60
        go_wp2_with (first | (go_at_call 59; refine (unhide CW).mono ?_; rintro e w1 ⟨rfl, rfl⟩) | (go_at_call 38; refine (unhide CO').mono ?_; rintro e w2 ⟨rfl, hb⟩; have H2 := hide ((unhide HH).below hb); have HB2 := hide (hb.mono hB); have c1 := (unhide H2).cells.c1; have ss := (unhide H2).cells.ss k hlt.1; rw [unhide HBS] at ss; clear hb))
        refine bodyPost_ret (results_none rfl _ _ _) rfl ?_
        refine ⟨rfl, M, rfl, ?_, unhide HB2⟩
        rw [unhide HF]
        exact unhide H2
  · rw [if_neg hin] at hf
    have CW := hide (within_out L s a w h.rep (by omega))
    have HF := hide hf
    have HH := hide h
    clear h hf hin ok
    go_enter Tryd.func60, Tryd.ntmps60
    go_wp2_with (go_at_call 59; refine (unhide CW).mono ?_; rintro e w1 ⟨rfl, rfl⟩)
    refine bodyPost_ret (results_none rfl _ _ _) rfl ?_
    refine ⟨rfl, M, rfl, ?_, Below.refl _ _⟩
    rw [unhide HF]
    exact unhide HH
end Go.Proofs.YtgegkcjllliifabDoor
