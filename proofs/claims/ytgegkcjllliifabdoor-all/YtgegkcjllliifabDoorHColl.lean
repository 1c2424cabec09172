/-
  The walk of Collect.
-/
import Derived.Test.YtgegkcjllliifabDoorHPass
import Derived.Test.YtgegkcjllliifabDoorHNew
namespace Go.Proofs.YtgegkcjllliifabDoor
open Go.RowKit

def Ms.none : Ms := ⟨fun _ => false, fun _ => false, [], false⟩
/-- Three new blocks, and where they lie. -/
theorem three (w : World) (A B C : Obj) : (((w.alloc A).alloc B).alloc C).drew.heap[w.heap.size]? = some A ∧ (((w.alloc A).alloc B).alloc C).drew.heap[w.heap.size + 1]? = some B ∧ (((w.alloc A).alloc B).alloc C).drew.heap[w.heap.size + 1 + 1]? = some C ∧ Below w.heap.size w (((w.alloc A).alloc B).alloc C).drew := by
  have e : (((w.alloc A).alloc B).alloc C).drew.heap = ((w.heap.push A).push B).push C := rfl
  rw [e]
  refine ⟨?_, ?_, ?_, ?_⟩
  · rw [Array.getElem?_push, if_neg (by simp only [Array.size_push]; omega), Array.getElem?_push, if_neg (by simp only [Array.size_push]; omega), Array.getElem?_push, if_pos rfl]
  · rw [Array.getElem?_push, if_neg (by simp only [Array.size_push]; omega), Array.getElem?_push, if_pos (by simp only [Array.size_push])]
  · rw [Array.getElem?_push, if_pos (by simp only [Array.size_push])]
  · exact (((((Below.refl _ _).alloc (Nat.le_refl _) _).alloc (by simp) _).alloc (by simp; omega) _)).drew

def MB (L : HL) (n sb kb : Nat) : Obj := .cells #[.pointer (some ⟨L.h, 0, none⟩), .slice (some ⟨sb, 0, none⟩) (n * 32) (n * 32), .slice (some ⟨kb, 0, none⟩) n n, .slice none 0 0, .bool false] 67
/-- The marking begins. -/
def Begun (w : World) (L : HL) (s : St) (mb : Nat) (W : World) : Prop := ∃ M : ML, M.m = mb ∧ MRep w.heap.size W L s M Ms.none ∧ Below w.heap.size w W
theorem begun {w W : World} {L : HL} {s : St} (h : Rep w L s) (mb sb kb : Nat) (hB : Below w.heap.size w W) (h1 : W.heap[mb]? = some (MB L s.n sb kb)) (h2 : W.heap[sb]? = some (BB (s.n * 32))) (h3 : W.heap[kb]? = some (BB s.n))
    (d : mb ≠ sb ∧ mb ≠ kb ∧ sb ≠ kb ∧ w.heap.size ≤ mb ∧ w.heap.size ≤ sb ∧ w.heap.size ≤ kb) : Begun w L s mb W := by
  refine ⟨⟨mb, sb, kb, .slice none 0 0⟩, rfl, ⟨h.below hB, h1, ?_, ?_, World.ownsRow_nil _ _ _ _, d.1, d.2.1, d.2.2.1, fun k hk => (by cases hk), d.2.2.2.1, d.2.2.2.2.1, d.2.2.2.2.2, fun k hk => (by cases hk), fun k hk => h.lt k hk⟩, hB⟩
  · rw [h2, BB, fcells_made]; rfl
  · rw [h3, BB, fcells_made]; rfl

theorem MI.none (s : St) : MI s (fun _ => False) Ms.none := ⟨fun k hk => (by cases hk), fun k hk => (by cases hk), fun k hk => (by cases hk), fun _ k hk => (by cases hk), Nat.zero_le _, Nat.zero_le _⟩

/-- The heap behind a collection. -/
def St.coll (s : St) (stays black : Nat → Bool) (again : Nat) : St := { s with beg := stays, blk := black, since := 0, colls := s.colls + 1, again := again }
def St.collected (s : St) (stays black : Nat → Bool) (again : Nat) : St := lvK (s.coll stays black again) s.n

theorem MRep.finish {B : Nat} {w : World} {L : HL} {s : St} {M : ML} {m : Ms} (h : MRep B w L s M m) (ag : Nat) :
    ∃ W, (((((w.setCell ⟨L.h, 2, none⟩ (.slice (some ⟨M.sb, 0, none⟩) (s.n * 32) (s.n * 32))).setCell ⟨L.h, 3, none⟩ (.slice (some ⟨M.kb, 0, none⟩) s.n s.n)).setCell ⟨L.h, 7, none⟩ (.int .i64 0)).setCell ⟨L.h, 8, none⟩ (.int .i64 ((s.colls : Int) + 1))).setCell ⟨L.h, 9, none⟩ (.int .i64 ag)) = W ∧
      Rep W ⟨L.h, L.bp, L.bw, M.sb, M.kb, L.vr⟩ (s.coll m.stays m.black ag) ∧ Touch [L.h] w W := by
  have a := HL.apart h.rep.nd
  have o := h.old
  have b1 := h.bs
  have b2 := h.bk
  have oh := o L.h (by simp [HL.blocks])
  have op := o L.bp (by simp [HL.blocks])
  have ow := o L.bw (by simp [HL.blocks])
  have or : ∀ k, L.vr.ownBlock = some k → k < B := fun k hk => o k (by simp [HL.blocks, hk])
  have t : Touch [L.h] w (((((w.setCell ⟨L.h, 2, none⟩ (.slice (some ⟨M.sb, 0, none⟩) (s.n * 32) (s.n * 32))).setCell ⟨L.h, 3, none⟩ (.slice (some ⟨M.kb, 0, none⟩) s.n s.n)).setCell ⟨L.h, 7, none⟩ (.int .i64 0)).setCell ⟨L.h, 8, none⟩ (.int .i64 ((s.colls : Int) + 1))).setCell ⟨L.h, 9, none⟩ (.int .i64 ag)) :=
    ((((((Touch.refl _ _).set _ _ _ (.inl (by simp))).set _ _ _ (.inl (by simp))).set _ _ _ (.inl (by simp))).set _ _ _ (.inl (by simp))).set _ _ _ (.inl (by simp)))
  have hne : ∀ k, k < w.heap.size → k ≠ L.h → _ := fun k hk hn => t.block k hk (by simpa using hn)
  refine ⟨_, rfl, ⟨?_, ?_, ?_, ?_, ?_, ?_, ?_, h.rep.n1, h.rep.n2, h.rep.rt, h.rep.r1, h.rep.rm, h.rep.tg, fun _ => Nat.zero_le _⟩, t⟩
  · have h1 := heap_setCell_same w L.h 2 _ _ (.slice (some ⟨M.sb, 0, none⟩) (s.n * 32) (s.n * 32)) h.rep.hh
    have h2 := heap_setCell_same _ L.h 3 _ _ (.slice (some ⟨M.kb, 0, none⟩) s.n s.n) h1
    have h3 := heap_setCell_same _ L.h 7 _ _ (.int .i64 0) h2
    have h4 := heap_setCell_same _ L.h 8 _ _ (.int .i64 ((s.colls : Int) + 1)) h3
    have h5 := heap_setCell_same _ L.h 9 _ _ (.int .i64 (ag : Int)) h4
    rw [h5]
    rfl
  · exact (hne L.bp (heap_lt h.rep.hp) (Ne.symm a.hp)).trans h.rep.hp
  · exact (hne L.bw (heap_lt h.rep.hw) (Ne.symm a.hw)).trans h.rep.hw
  · exact (hne M.sb (heap_lt h.hs) (by omega)).trans h.hs
  · exact (hne M.kb (heap_lt h.hk) (by omega)).trans h.hk
  · exact ownsRow_agree h.rep.hr fun k hk => hne k (h.rep.hr.lt k hk).2 (a.r k hk).1
  · have hn := h.rep.nd
    simp only [HL.blocks, List.nodup_cons, List.mem_cons, Option.mem_toList, not_or] at hn ⊢
    obtain ⟨⟨a1, a2, a3, a4, a5⟩, ⟨c1, c2, c3, c4⟩, ⟨d1, d2, d3⟩, ⟨e1, e2⟩, f1, g1⟩ := hn
    exact ⟨⟨a1, a2, by omega, by omega, a5⟩, ⟨c1, by omega, by omega, c4⟩, ⟨by omega, by omega, d3⟩, ⟨h.ne3, fun e => by have := or _ e; omega⟩, fun e => by have := or _ e; omega, g1⟩

/-- How often it went over the heap again. -/
structure AgOk (s : St) (m : Ms) (ag : Nat) : Prop where
  le : ag + (if m.missed then 1 else 0) ≤ s.cnt m
  rm : 0 < ag ∨ m.missed = true → s.room + 1 ≤ s.cnt m

structure CI (B : Nat) (w : World) (L : HL) (s : St) (mb : Nat) (ag : Nat) (M : ML) (m : Ms) (wr : World) : Prop where
  e : M.m = mb
  r : MRep B wr L s M m
  b : Below B w wr
  mi : MI s (fun _ => False) m
  wk : m.work = []
  ro : ∀ x, x ∈ s.roots → Fol s m x
  ag : AgOk s m ag

theorem cntF_false (n : Nat) : cntF (fun _ => false) n = 0 := by
  induction n with
  | zero => rfl
  | succ n ih => unfold cntF; rw [ih]; rfl
theorem cnt_none (s : St) : s.cnt Ms.none = 0 := cntF_false _

theorem CI.start {B : Nat} {w W w1 : World} {L : HL} {s : St} {M0 M1 : ML} {m1 : Ms} {mb : Nat} (e0 : M0.m = mb) (b0 : Below B w W) (f1 : FI B W L s M0 (fun _ => False) Ms.none M1 m1 w1) (hw1 : m1.work = []) (hr1 : ∀ x, x ∈ s.roots → Fol s m1 x) : CI B w L s mb 0 M1 m1 w1 := by
  refine ⟨f1.e.trans e0, f1.r, b0.trans f1.b, f1.mi, hw1, hr1, ?_, fun h => ?_⟩
  · split
    · rename_i hm
      rcases f1.le.cm hm with y | y
      · cases y
      · omega
    · omega
  · rcases h with h | h
    · omega
    · rcases f1.le.cm h with y | y
      · cases y
      · exact y.2
theorem CI.again {B : Nat} {w wr w2 : World} {L : HL} {s : St} {M M1 M2 : ML} {m m2 : Ms} {mb ag : Nat} (c : CI B w L s mb ag M m wr) (hm : m.missed = true) (b1 : Below B wr (wr.setCell ⟨mb, 4, none⟩ (.bool false))) (e1 : M1.m = mb)
    (f : FI B (wr.setCell ⟨mb, 4, none⟩ (.bool false)) L s M1 (fun _ => False) { m with missed := false } M2 m2 w2) (hw : m2.work = []) : CI B w L s mb (ag + 1) M2 m2 w2 ∧ (if m2.missed then 1 else 0) + 2 * (s.n * 32 - s.cnt m2) < 1 + 2 * (s.n * 32 - s.cnt m) := by
  have h1 := c.ag.le
  rw [if_pos hm] at h1
  have h2 := c.ag.rm (.inr hm)
  have h3 : s.cnt { m with missed := false } = s.cnt m := rfl
  have h4 := f.le.ct
  have h5 : m2.missed = true → s.cnt m + 1 ≤ s.cnt m2 := fun hh => by
    rcases f.le.cm hh with y | y
    · cases y
    · omega
  have h6 := cnt_le s m2
  refine ⟨⟨f.e.trans e1, f.r, (c.b.trans b1).trans f.b, f.mi, hw, fun x hx => ?_, ?_, fun _ => by omega⟩, ?_⟩
  · have : Fol s { m with missed := false } x := c.ro x hx
    exact this.mono f.le
  · split
    · rename_i hh
      have := h5 hh
      omega
    · omega
  · split
    · rename_i hh
      have := h5 hh
      omega
    · omega

theorem coll_end {w wr W4 w5 : World} {L : HL} {s : St} {M : ML} {m : Ms} {mb ag : Nat} (c : CI w.heap.size w L s mb ag M m wr) (hm : m.missed = false) (t4 : Touch [L.h] wr W4) (r5 : Rep w5 ⟨L.h, L.bp, L.bw, M.sb, M.kb, L.vr⟩ (s.collected m.stays m.black ag)) (t5 : Touch (⟨L.h, L.bp, L.bw, M.sb, M.kb, L.vr⟩ : HL).blocks W4 w5) :
    ∃ m ag, Marked s m.stays m.black ∧ ag ≤ s.cnt m ∧ (0 < ag → s.room + 1 ≤ s.cnt m) ∧ HSt w L (s.collected m.stays m.black ag) w5 := by
  have h1 := c.ag.le
  have hin : ∀ k, k ∈ (⟨L.h, L.bp, L.bw, M.sb, M.kb, L.vr⟩ : HL).blocks → k ∈ L.blocks ∨ w.heap.size ≤ k := by
    intro k hk
    simp only [HL.blocks, List.mem_cons, Option.mem_toList] at hk ⊢
    have b1 := c.r.bs
    have b2 := c.r.bk
    rcases hk with hk | hk | hk | hk | hk | hk
    · exact .inl (.inl hk)
    · exact .inl (.inr (.inl hk))
    · exact .inl (.inr (.inr (.inl hk)))
    · exact .inr (by omega)
    · exact .inr (by omega)
    · exact .inl (.inr (.inr (.inr (.inr (.inr hk)))))
  refine ⟨m, ag, c.mi.done c.wk hm c.ro fun x k hk => St.at_in hk, by omega, fun hp => c.ag.rm (.inl hp), ⟨⟨L.h, L.bp, L.bw, M.sb, M.kb, L.vr⟩, rfl, r5, hin, ?_⟩⟩
  refine ((Touch.of_below c.b).trans t4 fun i hi => ?_).trans t5 hin
  simp at hi
  rw [hi]
  exact .inl (by simp [HL.blocks])

set_option maxHeartbeats 6400000 in
theorem collect_any' (L : HL) (s : St) (w : World) (h : Rep w L s) (ok : s.ok) (hfit : ∀ j, s.Reach j → s.Fit j) (hc : s.colls ≤ 4611686018427387904) :
    Calls Tryd.prog 28 #[.pointer (some ⟨L.h, 0, none⟩)] w fun e w' => e = .returned (.tuple #[]) ∧ ∃ m ag, Marked s m.stays m.black ∧ ag ≤ s.cnt m ∧ (0 < ag → s.room + 1 ≤ s.cnt m) ∧ HSt w L (s.collected m.stays m.black ag) w' := by
  have n2 := h.n2
  have fp := h.cells.fp
  have fw := h.cells.fw
  have l1 := h.cells.l1
  have m1 := mkBegins s.n n2
  have m2 := mkBlack s.n n2
  have OK := hide ok
  have HFit := hide hfit
  have HH := hide h
  clear h ok hfit
  go_enter Tryd.func28, Tryd.ntmps28
  go_wp2_with fail
  go_region
  all_goals first
    | (obtain ⟨W, hW, mb, hmb, hb⟩ : ∃ W, (((w.alloc (BB (s.n * 32))).alloc (BB s.n)).alloc (MB L s.n w.heap.size (w.heap.size + 1))).drew = W ∧ ∃ mb, w.heap.size + 1 + 1 = mb ∧ Begun w L s mb W := ⟨_, rfl, _, rfl, by obtain ⟨f1, f2, f3, f4⟩ := three w (BB (s.n * 32)) (BB s.n) (MB L s.n w.heap.size (w.heap.size + 1)); exact begun (unhide HH) _ w.heap.size (w.heap.size + 1) f4 f3 f1 f2 (by omega)⟩; unfold MB at hW; rw [hW, hmb])
    | (obtain ⟨W, hW, mb, hmb, hb⟩ : ∃ W, (((w.alloc (BB (s.n * 32))).alloc (MB L s.n w.heap.size (w.heap.size + 1 + 1))).alloc (BB s.n)).drew = W ∧ ∃ mb, w.heap.size + 1 = mb ∧ Begun w L s mb W := ⟨_, rfl, _, rfl, by obtain ⟨f1, f2, f3, f4⟩ := three w (BB (s.n * 32)) (MB L s.n w.heap.size (w.heap.size + 1 + 1)) (BB s.n); exact begun (unhide HH) _ w.heap.size (w.heap.size + 1 + 1) f4 f2 f1 f3 (by omega)⟩; unfold MB at hW; rw [hW, hmb])
    | (obtain ⟨W, hW, mb, hmb, hb⟩ : ∃ W, (((w.alloc (BB s.n)).alloc (BB (s.n * 32))).alloc (MB L s.n (w.heap.size + 1) w.heap.size)).drew = W ∧ ∃ mb, w.heap.size + 1 + 1 = mb ∧ Begun w L s mb W := ⟨_, rfl, _, rfl, by obtain ⟨f1, f2, f3, f4⟩ := three w (BB s.n) (BB (s.n * 32)) (MB L s.n (w.heap.size + 1) w.heap.size); exact begun (unhide HH) _ (w.heap.size + 1) w.heap.size f4 f3 f2 f1 (by omega)⟩; unfold MB at hW; rw [hW, hmb])
    | (obtain ⟨W, hW, mb, hmb, hb⟩ : ∃ W, (((w.alloc (BB s.n)).alloc (MB L s.n (w.heap.size + 1 + 1) w.heap.size)).alloc (BB (s.n * 32))).drew = W ∧ ∃ mb, w.heap.size + 1 = mb ∧ Begun w L s mb W := ⟨_, rfl, _, rfl, by obtain ⟨f1, f2, f3, f4⟩ := three w (BB s.n) (MB L s.n (w.heap.size + 1 + 1) w.heap.size) (BB (s.n * 32)); exact begun (unhide HH) _ (w.heap.size + 1 + 1) w.heap.size f4 f2 f3 f1 (by omega)⟩; unfold MB at hW; rw [hW, hmb])
    | (obtain ⟨W, hW, mb, hmb, hb⟩ : ∃ W, (((w.alloc (MB L s.n (w.heap.size + 1) (w.heap.size + 1 + 1))).alloc (BB (s.n * 32))).alloc (BB s.n)).drew = W ∧ ∃ mb, w.heap.size = mb ∧ Begun w L s mb W := ⟨_, rfl, _, rfl, by obtain ⟨f1, f2, f3, f4⟩ := three w (MB L s.n (w.heap.size + 1) (w.heap.size + 1 + 1)) (BB (s.n * 32)) (BB s.n); exact begun (unhide HH) _ (w.heap.size + 1) (w.heap.size + 1 + 1) f4 f1 f2 f3 (by omega)⟩; unfold MB at hW; rw [hW, hmb])
    | (obtain ⟨W, hW, mb, hmb, hb⟩ : ∃ W, (((w.alloc (MB L s.n (w.heap.size + 1 + 1) (w.heap.size + 1))).alloc (BB s.n)).alloc (BB (s.n * 32))).drew = W ∧ ∃ mb, w.heap.size = mb ∧ Begun w L s mb W := ⟨_, rfl, _, rfl, by obtain ⟨f1, f2, f3, f4⟩ := three w (MB L s.n (w.heap.size + 1 + 1) (w.heap.size + 1)) (BB s.n) (BB (s.n * 32)); exact begun (unhide HH) _ (w.heap.size + 1 + 1) (w.heap.size + 1) f4 f1 f3 f2 (by omega)⟩; unfold MB at hW; rw [hW, hmb])
  all_goals
    obtain ⟨M0, e0, r0, b0⟩ := hb
    have C0 := followRoots_any w.heap.size L s M0 Ms.none W r0 (unhide OK) (unhide HFit) b0.size (MI.none s) rfl
    rw [e0] at C0
    have CC0 := hide C0
    have E0 := hide e0
    have B0 := hide b0
    clear C0 r0 b0 e0 hW hmb m1 m2 fp fw
    go_wp2_with fail
    refine (unhide CC0).mono ?_
    rintro e w1 ⟨rfl, M1, m1, f1, hw1, hr1⟩
    have HCI := hide (CI.start (unhide E0) (unhide B0) f1 hw1 hr1)
    clear f1 hw1 hr1
    go_wp2_with fail
    go_loopg [3] (2 * (s.n * 32) + 1) (fun gk av wr => ∃ (a : Nat) (M' : ML) (m' : Ms), av = .int .i64 a ∧ Hid (CI w.heap.size w L s mb a M' m' wr) ∧ Hid ((if m'.missed then 1 else 0) + 2 * (s.n * 32 - s.cnt m') ≤ gk))
    case atStart => exact ⟨0, M1, m1, rfl, HCI, hide (by split <;> omega)⟩
    case round =>
      obtain ⟨a, M', m', rfl, C', G'⟩ := hrel
      have c4 := (unhide C').r.cells.c4
      have mz := (unhide C').r.cells.mz
      have c1 := (unhide C').r.cells.c1
      have c2 := (unhide C').r.cells.c2
      rw [(unhide C').e] at c4 mz c1 c2
      have abd : a ≤ 1536 := by have := (unhide C').ag.le; have := cnt_le s m'; split at * <;> omega
      obtain ⟨b, hb⟩ : ∃ b, m'.missed = b := ⟨_, rfl⟩
      rw [hb] at c4
      have HBM := hide hb
      clear hb
      cases b
      · have fc := (unhide C').r.rep.cells.fc
        have hz := (unhide C').r.rep.cells.hz
        have f2 := (unhide C').r.rep.cells.fb
        have f3 := (unhide C').r.rep.cells.fk
        have f7 := (unhide C').r.rep.cells.fa
        have f8 := (unhide C').r.rep.cells.fs
        have hne : L.h ≠ mb := by have := (unhide C').r.bm; rw [(unhide C').e] at this; omega
        have hne' : mb ≠ L.h := fun e => hne e.symm
        obtain ⟨W4, hW4, r4, t4⟩ := (unhide C').r.finish a
        have HW4 := hide hW4
        have T4 := hide t4
        have CL := hide (leaveUnswept_any _ _ _ r4)
        clear hW4 t4 r4
        go_wp2_with fail
        rw [unhide HW4]
        refine (unhide CL).mono ?_
        rintro e w5 ⟨rfl, r5, t5⟩
        have HF := hide (coll_end (unhide C') (unhide HBM) (unhide T4) r5 t5)
        clear r5 t5 fc hz f2 f3 f7 f8 c1 c2 c4
        go_wp2
        go_end0
        exact ⟨rfl, unhide HF⟩
      · have r1 := (unhide C').r.setMissed false
        rw [(unhide C').e] at r1
        have mi1 : MI s (fun _ => True) { m' with missed := false } := by
          have q := (unhide C').mi
          exact ⟨q.stay, q.blk, q.work, fun _ k _ _ => .inr (.inr trivial), q.wlen, q.room⟩
        have CG := goOver_any w.heap.size L s M' { m' with missed := false } _ r1 (unhide OK) (unhide HFit) (by have := (unhide C').b.size; simpa using this) mi1 (unhide C').wk
        rw [(unhide C').e] at CG
        have CC := hide CG
        have B1 := hide (below_setB w.heap.size wr mb 4 (.bool false) (by have := (unhide C').r.bm; rw [(unhide C').e] at this; exact this))
        have G1 : Hid (1 + 2 * (s.n * 32 - s.cnt m') ≤ gk) := hide (by have := unhide G'; rw [unhide HBM] at this; simpa using this)
        clear r1 mi1 CG c1 c2
        go_wp2_with fail
        refine (unhide CC).mono ?_
        rintro e w2 ⟨rfl, M2, m2, f2, hw2⟩
        obtain ⟨n1, n3⟩ := CI.again (unhide C') (unhide HBM) (unhide B1) (unhide C').e f2 hw2
        have N1 := hide n1
        have N3 := hide n3
        clear f2 hw2 n1 n3 c4
        go_wp2
        go_roundg ((if m2.missed then 1 else 0) + 2 * (s.n * 32 - s.cnt m2))
        case measure => have x := unhide N3; have y := unhide G1; omega
        case rel => exact ⟨a + 1, M2, m2, by go_num, N1, hide (Nat.le_refl _)⟩
end Go.Proofs.YtgegkcjllliifabDoor
