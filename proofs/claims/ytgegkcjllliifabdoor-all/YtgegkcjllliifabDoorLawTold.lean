/-
  The walk of the law's told: counts, all, sweeping, collecting.
-/
import Derived.Test.YtgegkcjllliifabDoorLawList
import Derived.Deep.RegionHeld2
namespace Go.Proofs.YtgegkcjllliifabDoor
open Go.RowKit

theorem Same.both {H : HeapI} {N0 : Nat} {w0 w w' : World} {O : Nat → Nat × Nat} {s : LSt} {i t : Nat} {p : PairS} {c : Cn} (h : Same H N0 w0 w O s i p c w') (ok : Ok t s) (hp : s.hs[i]? = some p) : Both H N0 w0 s i t w' := by
  obtain ⟨B', O', _, h'⟩ := h
  refine ⟨_, O', h', ok.setP rfl ?_⟩
  have := ok.runs i p hp
  show p.mr.runs ≤ _ ∧ p.mr.since ≤ _ ∧ p.mr.kept ≤ _
  omega

set_option maxHeartbeats 800000 in
theorem told_counts {H : HeapI} {N0 : Nat} {w0 w : World} {O : Nat → Nat × Nat} {s : LSt} {i t : Nat} {p : PairS} (h : LawIs H N0 w0 w O s) (ok : Ok t s) (ht : t ≤ 2000000) (hp : s.hs[i]? = some p) (a b c : Int) :
    Calls Tryd.prog 54 #[.pointer (some ⟨s.wB, 0, none⟩), .pointer (some ⟨p.pb, 0, none⟩), .agg #[.int .i64 16, .int .i64 a, .int .i64 b, .int .i64 c]] w fun e w' => e = .returned (.bool true) ∧ Both H N0 w0 s i t w' := by
  obtain ⟨W, O1, eW, h1, bx, zW⟩ := h.boxed 16 a b c
  have EW := hide eW
  have hsync := ok.sync i p hp
  have hg : Geo p.mr := by rw [← hsync]; exact H.geo (h.pair hp).2.1.1
  have CC := hide (counted_any h1 hp hsync (bd_of hg (ok.runs i p hp) ht))
  have OK := hide ok
  have HP := hide hp
  clear h h1 bx ok hp eW zW hg hsync
  go_enter Tryd.func54, Tryd.ntmps54
  go_wp2_with fail
  rw [show w.alloc (.cells #[.int .i64 16, .int .i64 a, .int .i64 b, .int .i64 c] 52) = W from unhide EW]
  refine (unhide CC).mono ?_
  rintro e w3 ⟨rfl, hs⟩
  have HF := hide (hs.both (unhide OK) (unhide HP))
  clear hs
  go_wp2
  go_ret
  exact ⟨rfl, unhide HF⟩

set_option maxHeartbeats 800000 in
theorem told_all {H : HeapI} {N0 : Nat} {w0 w : World} {O : Nat → Nat × Nat} {s : LSt} {i t : Nat} {p : PairS} (h : LawIs H N0 w0 w O s) (ok : Ok t s) (ht : t ≤ 2000000) (hp : s.hs[i]? = some p) (a b c : Int) :
    Calls Tryd.prog 54 #[.pointer (some ⟨s.wB, 0, none⟩), .pointer (some ⟨p.pb, 0, none⟩), .agg #[.int .i64 17, .int .i64 a, .int .i64 b, .int .i64 c]] w fun e w' => e = .returned (.bool true) ∧ Both H N0 w0 s i t w' := by
  obtain ⟨W, O1, eW, h1, bx, zW⟩ := h.boxed 17 a b c
  have EW := hide eW
  have hsync := ok.sync i p hp
  have hg : Geo p.mr := by rw [← hsync]; exact H.geo (h.pair hp).2.1.1
  have CC := hide (all_any h1 hp hsync (bd_of hg (ok.runs i p hp) ht))
  have OK := hide ok
  have HP := hide hp
  clear h h1 bx ok hp eW zW hg hsync
  go_enter Tryd.func54, Tryd.ntmps54
  go_wp2_with fail
  rw [show w.alloc (.cells #[.int .i64 17, .int .i64 a, .int .i64 b, .int .i64 c] 52) = W from unhide EW]
  refine (unhide CC).mono ?_
  rintro e w3 ⟨rfl, hs⟩
  have HF := hide (hs.both (unhide OK) (unhide HP))
  clear hs
  go_wp2
  go_ret
  exact ⟨rfl, unhide HF⟩

set_option maxHeartbeats 1600000 in
theorem told_sweep {H : HeapI} {N0 : Nat} {w0 w : World} {O : Nat → Nat × Nat} {s : LSt} {i t : Nat} {p : PairS} (h : LawIs H N0 w0 w O s) (ok : Ok t s) (ht : t ≤ 2000000) (hp : s.hs[i]? = some p) (a b c : Int) (hb2 : b ≤ 9223372036854775807) :
    Calls Tryd.prog 54 #[.pointer (some ⟨s.wB, 0, none⟩), .pointer (some ⟨p.pb, 0, none⟩), .agg #[.int .i64 13, .int .i64 a, .int .i64 b, .int .i64 c]] w fun e w' => e = .returned (.bool true) ∧ Both H N0 w0 s i t w' := by
  obtain ⟨W, O1, eW, h1, bx, zW⟩ := h.boxed 13 a b c
  have EW := hide eW
  have hsync := ok.sync i p hp
  have hg : Geo p.mr := by rw [← hsync]; exact H.geo (h.pair hp).2.1.1
  have CC := hide (swept_any h1 hp hsync (bd_of hg (ok.runs i p hp) ht) b hb2)
  have BX := hide bx
  have OK := hide ok
  have HP := hide hp
  have H1 := hide h1
  have SY := hide hsync
  obtain ⟨f0, f1⟩ := (h1.pair hp).cells
  rw [← unhide EW] at f0
  unfold opObj at f0
  clear h h1 bx ok hp eW zW hg hsync f1
  obtain ⟨bb, hbb⟩ : ∃ bb, (bits BinOp.and IntKind.i64 c 1 == 1) = bb := ⟨_, rfl⟩
  cases bb
  · go_enter Tryd.func54, Tryd.ntmps54
    go_wp2_with fail
    rw [show w.alloc (.cells #[.int .i64 13, .int .i64 a, .int .i64 b, .int .i64 c] 52) = W from unhide EW]
    refine (unhide CC).mono ?_
    rintro e w3 ⟨rfl, c', hs⟩
    have HF := hide (hs.both (unhide OK) (unhide HP))
    clear hs
    go_wp2
    go_ret
    exact ⟨rfl, unhide HF⟩
  · clear CC
    go_enter Tryd.func54, Tryd.ntmps54
    go_wp2_with fail
    rw [show w.alloc (.cells #[.int .i64 13, .int .i64 a, .int .i64 b, .int .i64 c] 52) = W from unhide EW]
    have HD := hide ((unhide H1).quiet (Below.refl W.heap.size W).drew)
    have CS := hide (H.sweep b (unhide HD).glob ((unhide HD).pair (unhide HP)).2.1.1 hb2)
    obtain ⟨k0, k1, k2, k3⟩ := opObj_cells (unhide BX)
    have g0 := ((unhide H1).pair (unhide HP)).cells.1
    clear f0 k0 k1 k3
    go_region_held2 (fun w' => w'.cell? ⟨p.pb, 0, none⟩ = some (.pointer (some ⟨p.a, 0, none⟩)) ∧ w'.cell? ⟨w.heap.size, 2, none⟩ = some (.int .i64 b)) (go_keep) ((go_at_call 42; refine (unhide CS).mono ?_; rintro e w3 ⟨rfl, c', _, _, hto⟩; obtain ⟨B', O3, l3, h3⟩ := (unhide HD).imp (unhide HP) hto; have HF : Hid (Both H N0 w0 s i t w3) := ⟨_, _, h3, (unhide OK).setP (unhide SY) (by have := (unhide OK).runs i p (unhide HP); show p.mr.runs ≤ _ ∧ p.mr.since ≤ _ ∧ p.mr.kept ≤ _; omega)⟩; have HP3 := hide (setP_at (p' := { p with B := B', mi := p.mi, c := c' }) (unhide HP)); have gg := (h3.pair (unhide HP3)).cells.1; obtain ⟨_, _, k2', _⟩ := opObj_cells (l3 _ _ _ (Loc.of_below (O := O1) (8, 8) (Below.refl W.heap.size W).drew _ _ _ (unhide BX))); dsimp only at gg; clear hto h3 l3))
    go_wp2
    go_ret
    exact ⟨rfl, unhide HF⟩

set_option maxRecDepth 10000 in
set_option maxHeartbeats 3200000 in
theorem told_collect {H : HeapI} {N0 : Nat} {w0 w : World} {O : Nat → Nat × Nat} {s : LSt} {i t : Nat} {p : PairS} (h : LawIs H N0 w0 w O s) (ok : Ok t s) (ht : t ≤ 1900000) (hp : s.hs[i]? = some p) (a b c : Int) :
    Calls Tryd.prog 54 #[.pointer (some ⟨s.wB, 0, none⟩), .pointer (some ⟨p.pb, 0, none⟩), .agg #[.int .i64 12, .int .i64 a, .int .i64 b, .int .i64 c]] w fun e w' => e = .returned (.bool true) ∧ Both H N0 w0 s i t w' := by
  obtain ⟨W, O1, eW, h1, bx, zW⟩ := h.boxed 12 a b c
  have EW := hide eW
  have hsync := ok.sync i p hp
  have hrun := ok.runs i p hp
  have hg : Geo p.mr := by rw [← hsync]; exact H.geo (h.pair hp).2.1.1
  have BD := hide (bd_of hg hrun (by omega))
  have CX := hide (H.collect h1.glob (h1.pair hp).2.1.1 (by rw [hsync]; have := hrun.1; omega))
  rw [hsync] at CX
  have OK := hide ok
  have HP := hide hp
  have H1 := hide h1
  have HG := hide hg
  have X1 := hide bx
  obtain ⟨f0, f1⟩ := (h1.pair hp).cells
  rw [← unhide EW] at f0
  unfold opObj at f0
  clear h h1 bx ok hp eW zW hg hsync f1
  go_enter Tryd.func54, Tryd.ntmps54
  go_wp2_with fail
  rw [show w.alloc (.cells #[.int .i64 12, .int .i64 a, .int .i64 b, .int .i64 c] 52) = W from unhide EW]
  refine (unhide CX).mono ?_
  rintro e w3 ⟨rfl, on, c', hon, huu, hto⟩
  obtain ⟨B', O3, l3, h3⟩ := (unhide H1).imp (unhide HP) hto
  have H3 := hide h3
  have HP3 := hide (setP_at (p' := { p with B := B', mi := p.mr.collect on, c := c' }) (unhide HP))
  obtain ⟨g0, g1⟩ := (h3.pair (unhide HP3)).cells
  have CR := hide (collect_any p.R p.mr w3 (h3.pair (unhide HP3)).2.2.1 (unhide BD))
  have HON := hide hon
  have HUU := hide huu
  have X3 := hide (l3 _ _ _ (unhide X1))
  clear f0 g0 hto h3 l3 hon huu CX
  dsimp only at g1
  go_wp2_with fail
  refine (unhide CR).mono ?_
  rintro e w4 ⟨rfl, on', hon', hrt⟩
  obtain rfl := reach_unique (unhide HON) hon'
  obtain ⟨R', O4, er, l4, h4⟩ := (unhide H3).ref (unhide HP3) hrt
  rw [setP_setP] at h4
  have ok4 : Ok (t + 1) (s.setP i { p with B := B', mi := p.mr.collect on, c := c', R := R', mr := p.mr.collect on }) := by
    refine (unhide OK).setP rfl ?_
    have hk := (keepG_sublist p.mr.objs on).length_le
    have ho := (unhide HG).objs
    show p.mr.runs + 1 ≤ _ ∧ 0 ≤ _ ∧ (keepG p.mr.objs on).length ≤ _
    omega
  have HF : Hid (Both H N0 w0 s i t w4) := ⟨_, _, h4, ok4⟩
  have bo := (l4 _ _ _ (unhide X3)).1
  unfold opObj at bo
  have o3 := cell_of_row w4 _ 3 _ _ _ bo
  simp only [List.getElem?_toArray, List.getElem?_cons_zero, List.getElem?_cons_succ] at o3
  clear hrt hon' g1 CR
  obtain ⟨bb, hbb⟩ : ∃ bb, (bits BinOp.and IntKind.i64 c 1 == 1) = bb := ⟨_, rfl⟩
  cases bb
  · have HP4 := hide (setP_at (p' := { p with B := B', mi := p.mr.collect on, c := c', R := R', mr := p.mr.collect on }) (unhide HP))
    have gg := ((h4.pair (unhide HP4)).cells).1
    dsimp only at gg
    have CK := hide (H.counts h4.glob (h4.pair (unhide HP4)).2.1.1)
    dsimp only at CK
    have H4 := hide h4
    have OK4 := hide ok4
    clear h4 ok4 l4 bo
    go_wp2_with fail
    refine (unhide CK).mono ?_
    rintro e w5 ⟨rfl, hto⟩
    obtain ⟨B5, O5, l5, h5⟩ := (unhide H4).imp (unhide HP4) hto
    rw [setP_setP] at h5
    have HP5 := hide (setP_at (p' := { p with B := B5, mi := p.mr.collect on, c := c', R := R', mr := p.mr.collect on }) (unhide HP))
    obtain ⟨W5, O5', e5, h5', b5, l5'⟩ := h5.box (ctO (p.mr.collect on) c')
    have hg5 : Geo (p.mr.collect on) := H.geo (h5.pair (unhide HP5)).2.1.1
    have hr5 := (unhide OK4).runs i _ (unhide HP4)
    dsimp only at hr5
    have CC := hide (counted_any h5' (unhide HP5) rfl (bd_of hg5 hr5 (by omega)))
    have X5 := hide b5
    have E5 := hide e5
    have HR5 := hide hr5
    clear h5 h5' l5 l5' b5 e5 hto gg hg5 hr5 CK
    go_wp2_with fail
    rw [show w5.alloc (.cells #[.int .i64 (p.mr.collect on).objs.length, .int .i64 (p.mr.collect on).words, .int .i64 (p.mr.collect on).runs, .int .i64 c'.again, .int .i64 c'.used, .int .i64 c'.unswept] 38) = W5 from unhide E5]
    refine (unhide CC).mono ?_
    rintro e w6 ⟨rfl, B6, O6, l6, h6⟩
    dsimp only at h6
    rw [setP_setP] at h6
    obtain ⟨a0, a1, a2, a3, a4, a5⟩ := ctO_cells (l6 _ _ _ (unhide X5))
    rw [unhide HUU] at a5
    have HF6 : Hid (Both H N0 w0 s i t w6) := ⟨_, _, h6, (unhide OK).setP rfl (unhide HR5)⟩
    clear h6 l6 CC
    go_wp2
    go_ret
    exact ⟨rfl, unhide HF6⟩
  · clear h4 ok4 l4 bo
    go_wp2
    go_ret
    exact ⟨rfl, unhide HF⟩
end Go.Proofs.YtgegkcjllliifabDoor
