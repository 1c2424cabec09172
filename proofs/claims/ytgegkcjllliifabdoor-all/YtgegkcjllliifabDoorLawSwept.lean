/-
  The walk of the law's swept.
-/
import Derived.Test.YtgegkcjllliifabDoorLawCount
namespace Go.Proofs.YtgegkcjllliifabDoor
open Go.RowKit

def ctO (m : Mo) (c : Cn) : Obj := .cells #[.int .i64 m.objs.length, .int .i64 m.words, .int .i64 m.runs, .int .i64 c.again, .int .i64 c.used, .int .i64 c.unswept] 38
theorem LawIs.box {H : HeapI} {N0 : Nat} {w0 w : World} {O : Nat → Nat × Nat} {s : LSt} (h : LawIs H N0 w0 w O s) (o : Obj) : ∃ W O1, w.alloc o = W ∧ LawIs H N0 w0 W O1 s ∧ Blk W O1 (8, 8) w.heap.size o ∧ Loc w O W O1 :=
  ⟨_, _, rfl, h.quiet ((Below.refl _ _).alloc (Nat.le_refl _) _), ⟨heap_alloc_new w _, ext_new w O _ _ (Nat.le_refl _)⟩, Loc.of_below (8, 8) ((Below.refl _ _).alloc (Nat.le_refl _) _)⟩
theorem ctO_cells {w : World} {O : Nat → Nat × Nat} {l : Nat × Nat} {n : Nat} {m : Mo} {c : Cn} (h : Blk w O l n (ctO m c)) : w.cell? ⟨n, 0, none⟩ = some (.int .i64 m.objs.length) ∧ w.cell? ⟨n, 1, none⟩ = some (.int .i64 m.words) ∧ w.cell? ⟨n, 2, none⟩ = some (.int .i64 m.runs) ∧ w.cell? ⟨n, 3, none⟩ = some (.int .i64 c.again) ∧ w.cell? ⟨n, 4, none⟩ = some (.int .i64 c.used) ∧ w.cell? ⟨n, 5, none⟩ = some (.int .i64 c.unswept) := by
  have hs := h.1
  unfold ctO at hs
  refine ⟨?_, ?_, ?_, ?_, ?_, ?_⟩ <;> (rw [cell_of_row w n _ _ _ _ hs]; rfl)

set_option maxRecDepth 10000 in
set_option maxHeartbeats 3200000 in
theorem swept_any {H : HeapI} {N0 : Nat} {w0 w : World} {O : Nat → Nat × Nat} {s : LSt} {i : Nat} {p : PairS} (h : LawIs H N0 w0 w O s) (hp : s.hs[i]? = some p) (hsync : p.mi = p.mr) (bd : p.mr.bd) (n : Int) (hn : n ≤ 9223372036854775807) :
    Calls Tryd.prog 79 #[.pointer (some ⟨p.pb, 0, none⟩), .int .i64 n] w fun e w' => e = .returned (.bool true) ∧ ∃ c', Same H N0 w0 w O s i p c' w' := by
  have H0 := hide h
  have HP := hide hp
  have BD := hide bd
  have SY := hide hsync
  obtain ⟨g0, g1⟩ := (h.pair hp).cells
  have CP := H.counts h.glob (h.pair hp).2.1.1
  have ck := H.cok (h.pair hp).2.1.1
  rw [hsync] at CP ck
  have CCP := hide CP
  have CK := hide ck
  clear h hp bd hsync CP ck
  go_enter Tryd.func79, Tryd.ntmps79
  go_wp2_with fail
  refine (unhide CCP).mono ?_
  rintro e w1 ⟨rfl, hto⟩
  obtain ⟨B1, O1, l1, h1⟩ := (unhide H0).imp (unhide HP) hto
  have HP1 := hide (setP_at (p' := { p with B := B1, mi := p.mr, c := p.c }) (unhide HP))
  obtain ⟨W1, O1', e1, h1', b1, l1'⟩ := h1.box (ctO p.mr p.c)
  have H1 := hide h1'
  have L1 := hide (l1.trans l1')
  have X1 := hide b1
  have E1 := hide e1
  have hpb : p.pb < w1.heap.size := heap_lt (h1.pair (unhide HP1)).1.1
  obtain ⟨gg, _⟩ := (h1.pair (unhide HP1)).cells
  dsimp only at gg
  obtain ⟨gg', _⟩ := (h1'.pair (unhide HP1)).cells
  dsimp only at gg'
  have CS := hide (H.sweep n h1'.glob (h1'.pair (unhide HP1)).2.1.1 hn)
  clear h1 l1 l1' b1 e1 h1' hto g0 g1 CCP
  go_wp2_with fail
  rw [show w1.alloc (.cells #[.int .i64 p.mr.objs.length, .int .i64 p.mr.words, .int .i64 p.mr.runs, .int .i64 p.c.again, .int .i64 p.c.used, .int .i64 p.c.unswept] 38) = W1 from unhide E1]
  refine (unhide CS).mono ?_
  rintro e w2 ⟨rfl, c2, hc2, hc2', hto⟩
  obtain ⟨B2, O2, l2, h2⟩ := (unhide H1).imp (unhide HP1) hto
  rw [setP_setP] at h2
  have HP2 := hide (setP_at (p' := { p with B := B2, mi := p.mr, c := c2 }) (unhide HP))
  have H2 := hide h2
  have L2 := hide l2
  have C2 := hide hc2
  have C2' := hide hc2'
  obtain ⟨gg2, _⟩ := (h2.pair (unhide HP2)).cells
  dsimp only at gg2
  have CP3 := hide (H.counts h2.glob (h2.pair (unhide HP2)).2.1.1)
  have CK2 := hide (H.cok (h2.pair (unhide HP2)).2.1.1)
  clear h2 l2 hto hc2 hc2' gg gg' hpb CS
  dsimp only at CP3 CK2
  go_wp2_with fail
  refine (unhide CP3).mono ?_
  rintro e w3 ⟨rfl, hto⟩
  obtain ⟨B3, O3, l3, h3⟩ := (unhide H2).imp (unhide HP2) hto
  rw [setP_setP] at h3
  have HP3 := hide (setP_at (p' := { p with B := B3, mi := p.mr, c := c2 }) (unhide HP))
  obtain ⟨W3, O3', e3, h3', b3, l3'⟩ := h3.box (ctO p.mr c2)
  have X3 := hide b3
  have E3 := hide e3
  have L3 := hide ((unhide L2).trans (l3.trans l3'))
  have H3 := hide h3'
  have CC := hide (counted_any h3' (unhide HP3) rfl (unhide BD))
  clear h3 l3 hto e3 b3 h3' l3' gg2 CP3
  go_wp2_with fail
  rw [show w3.alloc (.cells #[.int .i64 p.mr.objs.length, .int .i64 p.mr.words, .int .i64 p.mr.runs, .int .i64 c2.again, .int .i64 c2.used, .int .i64 c2.unswept] 38) = W3 from unhide E3]
  refine (unhide CC).mono ?_
  rintro e w4 ⟨rfl, B4, O4, l4, h4⟩
  dsimp only at h4
  rw [setP_setP] at h4
  have L4 := (unhide L3).trans l4
  obtain ⟨a0, a1, a2, a3, a4, a5⟩ := ctO_cells (L4 _ _ _ (unhide X1))
  obtain ⟨d0, d1, d2, d3, d4, d5⟩ := ctO_cells (l4 _ _ _ (unhide X3))
  have HN : Hid (∃ c', Same H N0 w0 w O s i p c' w4) := hide ⟨c2, B4, _, (unhide L1).trans L4, h4⟩
  obtain ⟨k1, k2, k3, k4, k5, k6, k7, k8⟩ := unhide CK
  obtain ⟨j1, j2, j3, j4, j5, j6, j7, j8⟩ := unhide CK2
  have q1 := (unhide BD).p2
  clear h4 l4 L4 H3 H2 H1 L1 L2 L3 CC k3 j3
  by_cases c : n ≤ 0
  · have ec := unhide C2 c
    subst ec
    clear C2 C2' j1 j2 j4 j5 j6 j7 j8 k2
    generalize p.mr.objs.length = ol at *
    generalize p.mr.words = wo at *
    generalize p.mr.runs = ru at *
    generalize p.c.again = ag at *
    generalize p.c.used = us at *
    generalize p.c.unswept = un at *
    go_wp2_with fail
    all_goals go_ret
    all_goals exact ⟨rfl, unhide HN⟩
  · obtain ⟨r1, r2, r3⟩ := unhide C2' (by omega)
    clear C2 C2' j2 k2 r1
    generalize p.mr.objs.length = ol at *
    generalize p.mr.words = wo at *
    generalize p.mr.runs = ru at *
    generalize p.c.again = ag at *
    generalize p.c.used = us at *
    generalize p.c.unswept = un at *
    generalize c2.again = ag2 at *
    generalize c2.used = us2 at *
    generalize c2.unswept = un2 at *
    have HZ : Hid ((decide (n ≤ un - un2) || un2 == 0) = true) := hide (by rcases r3 with e | e <;> simp [e])
    go_wp2_with fail
    all_goals go_ret
    all_goals first | exact ⟨rfl, unhide HN⟩ | exact ⟨congrArg (fun b => Ending.returned (.bool b)) (unhide HZ), unhide HN⟩
end Go.Proofs.YtgegkcjllliifabDoor
