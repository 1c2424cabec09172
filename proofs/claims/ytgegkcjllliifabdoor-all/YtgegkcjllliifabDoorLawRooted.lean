/-
  The walk of the law's rooted.
-/
import Derived.Test.YtgegkcjllliifabDoorLawWord
namespace Go.Proofs.YtgegkcjllliifabDoor
open Go.RowKit

/-- A step's record, as a function keeps it. -/
def opObj (k a b c : Int) : Obj := .cells #[.int .i64 k, .int .i64 a, .int .i64 b, .int .i64 c] 52
theorem opObj_cells {w : World} {O : Nat → Nat × Nat} {l : Nat × Nat} {n : Nat} {k a b c : Int} (h : Blk w O l n (opObj k a b c)) : w.cell? ⟨n, 0, none⟩ = some (.int .i64 k) ∧ w.cell? ⟨n, 1, none⟩ = some (.int .i64 a) ∧ w.cell? ⟨n, 2, none⟩ = some (.int .i64 b) ∧ w.cell? ⟨n, 3, none⟩ = some (.int .i64 c) := by
  have hs := h.1
  unfold opObj at hs
  refine ⟨?_, ?_, ?_, ?_⟩ <;> (rw [cell_of_row w n _ _ _ _ hs]; rfl)

/-- The law's function has taken its record in. -/
theorem LawIs.boxed {H : HeapI} {N0 : Nat} {w0 w : World} {O : Nat → Nat × Nat} {s : LSt} (h : LawIs H N0 w0 w O s) (k a b c : Int) : ∃ W O1, w.alloc (opObj k a b c) = W ∧ LawIs H N0 w0 W O1 s ∧ Blk W O1 (8, 8) w.heap.size (opObj k a b c) ∧ W.heap.size = w.heap.size + 1 := by
  refine ⟨_, _, rfl, h.quiet ((Below.refl _ _).alloc (Nat.le_refl _) _), ⟨heap_alloc_new w _, ext_new w O _ _ (Nat.le_refl _)⟩, by simp⟩

/-- What the two sides of pair i come to: both hold m'. -/
def Both (H : HeapI) (N0 : Nat) (w0 : World) (s : LSt) (i : Nat) (t : Nat) (w' : World) : Prop := ∃ p' O', LawIs H N0 w0 w' O' (s.setP i p') ∧ Ok (t + 1) (s.setP i p')

set_option maxHeartbeats 1600000 in
theorem rooted_push {H : HeapI} {N0 : Nat} {w0 w : World} {O : Nat → Nat × Nat} {s : LSt} {i t : Nat} {p : PairS} (h : LawIs H N0 w0 w O s) (ok : Ok t s) (ht : t ≤ 2000000) (hp : s.hs[i]? = some p) (a b c : Int) (hb1 : -9223372036854775808 ≤ b) (hb2 : b ≤ 9223372036854775807) :
    Calls Tryd.prog 53 #[.pointer (some ⟨s.wB, 0, none⟩), .pointer (some ⟨p.pb, 0, none⟩), .agg #[.int .i64 9, .int .i64 a, .int .i64 b, .int .i64 c]] w fun e w' => e = .returned (.bool true) ∧ Both H N0 w0 s i t w' := by
  obtain ⟨W, O1, eW, h1, bx, zW⟩ := h.boxed 9 a b c
  have EW := hide eW
  have H1 := hide h1
  have BX := hide bx
  have OK := hide ok
  have HP := hide hp
  have hsync := ok.sync i p hp
  have hrun := ok.runs i p hp
  have hg : Geo p.mr := by rw [← hsync]; exact H.geo (h.pair hp).2.1.1
  have BD := hide (bd_of hg hrun ht)
  have CW := hide (word_any h1 9 a b c hb1 hb2 (by have := ok.words; omega))
  obtain ⟨x, hx⟩ : ∃ x, wordOf s.words b c = x := ⟨_, rfl⟩
  rw [hx] at CW
  clear hx h h1 bx ok hp eW zW
  by_cases cf : p.mr.roots.length < 24
  · go_enter Tryd.func53, Tryd.ntmps53
    go_wp2_with fail
    rw [show w.alloc (.cells #[.int .i64 9, .int .i64 a, .int .i64 b, .int .i64 c] 52) = W from unhide EW]
    refine (unhide CW).mono ?_
    rintro e w2 ⟨rfl, hb⟩
    have H2 := hide ((unhide H1).quiet hb)
    obtain ⟨f0, f1⟩ := ((unhide H2).pair (unhide HP)).cells
    have CP := hide (H.push_ok x (unhide H2).glob ((unhide H2).pair (unhide HP)).2.1.1 (by rw [hsync]; exact cf))
    clear f1 hb
    go_wp2_with fail
    refine (unhide CP).mono ?_
    rintro e w3 ⟨rfl, c', hto⟩
    obtain ⟨B', O3, _, h3⟩ := (unhide H2).imp (unhide HP) hto
    have H3 := hide h3
    have HP3 := hide (setP_at (p' := { p with B := B', mi := { p.mi with roots := p.mi.roots ++ [x] }, c := c' }) (unhide HP))
    obtain ⟨g0, g1⟩ := ((unhide H3).pair (unhide HP3)).cells
    have CR := hide (refPush_ok p.R p.mr x w3 ((unhide H3).pair (unhide HP3)).2.2.1 cf)
    clear f0 g0 hto h3
    dsimp only at g1
    go_wp2_with fail
    refine (unhide CR).mono ?_
    rintro e w4 ⟨rfl, hrt⟩
    obtain ⟨R', O4, er, _, h4⟩ := (unhide H3).ref (unhide HP3) hrt
    have HF : Hid (Both H N0 w0 s i t w4) := by
      rw [setP_setP] at h4
      refine ⟨_, _, h4, (unhide OK).setP ?_ ?_⟩
      · show ({ p.mi with roots := p.mi.roots ++ [x] } : Mo) = { p.mr with roots := p.mr.roots ++ [x] }
        rw [hsync]
      · have := hrun
        show p.mr.runs ≤ _ ∧ p.mr.since ≤ _ ∧ p.mr.kept ≤ _
        omega
    clear hrt h4 g1
    go_wp2
    go_ret
    exact ⟨rfl, unhide HF⟩
  · go_enter Tryd.func53, Tryd.ntmps53
    go_wp2_with fail
    rw [show w.alloc (.cells #[.int .i64 9, .int .i64 a, .int .i64 b, .int .i64 c] 52) = W from unhide EW]
    refine (unhide CW).mono ?_
    rintro e w2 ⟨rfl, hb⟩
    have H2 := hide ((unhide H1).quiet hb)
    obtain ⟨f0, f1⟩ := ((unhide H2).pair (unhide HP)).cells
    have CP := hide (H.push_full x (unhide H2).glob ((unhide H2).pair (unhide HP)).2.1.1 (by rw [hsync]; omega))
    clear f1 hb
    go_wp2_with fail
    refine (unhide CP).mono ?_
    rintro e w3 ⟨rfl, hto⟩
    obtain ⟨B', O3, _, h3⟩ := (unhide H2).imp (unhide HP) hto
    have H3 := hide h3
    have HP3 := hide (setP_at (p' := { p with B := B', mi := p.mi, c := p.c }) (unhide HP))
    obtain ⟨g0, g1⟩ := ((unhide H3).pair (unhide HP3)).cells
    have CR := hide (refPush_full p.R p.mr x w3 ((unhide H3).pair (unhide HP3)).2.2.1 (by omega) (by have := (unhide BD).roots; omega))
    have HF : Hid (Both H N0 w0 s i t w3) := by
      refine ⟨_, _, h3, (unhide OK).setP ?_ ?_⟩
      · exact hsync
      · have := hrun
        show p.mr.runs ≤ _ ∧ p.mr.since ≤ _ ∧ p.mr.kept ≤ _
        omega
    clear f0 g0 hto h3
    dsimp only at g1
    go_wp2_with fail
    refine (unhide CR).mono ?_
    rintro e w4 ⟨rfl, rfl⟩
    clear g1
    go_wp2
    go_ret
    exact ⟨rfl, unhide HF⟩

set_option maxHeartbeats 1600000 in
theorem rooted_pop {H : HeapI} {N0 : Nat} {w0 w : World} {O : Nat → Nat × Nat} {s : LSt} {i t : Nat} {p : PairS} (h : LawIs H N0 w0 w O s) (ok : Ok t s) (ht : t ≤ 2000000) (hp : s.hs[i]? = some p) (a b c : Int) :
    Calls Tryd.prog 53 #[.pointer (some ⟨s.wB, 0, none⟩), .pointer (some ⟨p.pb, 0, none⟩), .agg #[.int .i64 10, .int .i64 a, .int .i64 b, .int .i64 c]] w fun e w' => e = .returned (.bool true) ∧ Both H N0 w0 s i t w' := by
  obtain ⟨W, O1, eW, h1, bx, zW⟩ := h.boxed 10 a b c
  have EW := hide eW
  have H1 := hide h1
  have OK := hide ok
  have HP := hide hp
  have hsync := ok.sync i p hp
  have hrun := ok.runs i p hp
  have hg : Geo p.mr := by rw [← hsync]; exact H.geo (h.pair hp).2.1.1
  have BD := hide (bd_of hg hrun ht)
  obtain ⟨f0, f1⟩ := (h1.pair hp).cells
  rw [← unhide EW] at f0
  unfold opObj at f0
  clear h h1 bx ok hp eW zW f1
  rcases hroots : p.mr.roots.length with _ | q
  · have hnil : p.mr.roots = [] := List.eq_nil_of_length_eq_zero hroots
    have CP := hide (H.pop_none (unhide H1).glob ((unhide H1).pair (unhide HP)).2.1.1 (by rw [hsync]; exact hnil))
    have HN := hide hnil
    clear hroots hnil
    go_enter Tryd.func53, Tryd.ntmps53
    go_wp2_with fail
    rw [show w.alloc (.cells #[.int .i64 10, .int .i64 a, .int .i64 b, .int .i64 c] 52) = W from unhide EW]
    refine (unhide CP).mono ?_
    rintro e w3 ⟨rfl, hto⟩
    obtain ⟨B', O3, _, h3⟩ := (unhide H1).imp (unhide HP) hto
    have H3 := hide h3
    have HP3 := hide (setP_at (p' := { p with B := B', mi := p.mi, c := p.c }) (unhide HP))
    obtain ⟨g0, g1⟩ := ((unhide H3).pair (unhide HP3)).cells
    have CR := hide (refPop_none p.R p.mr w3 ((unhide H3).pair (unhide HP3)).2.2.1 (unhide HN))
    have HF : Hid (Both H N0 w0 s i t w3) := by
      refine ⟨_, _, h3, (unhide OK).setP ?_ ?_⟩
      · exact hsync
      · have := hrun
        show p.mr.runs ≤ _ ∧ p.mr.since ≤ _ ∧ p.mr.kept ≤ _
        omega
    clear f0 g0 hto h3
    dsimp only at g1
    go_wp2_with fail
    refine (unhide CR).mono ?_
    rintro e w4 ⟨rfl, rfl⟩
    clear g1
    go_wp2
    go_ret
    exact ⟨rfl, unhide HF⟩
  · have CP := hide (H.pop_ok q (unhide H1).glob ((unhide H1).pair (unhide HP)).2.1.1 (by rw [hsync]; exact hroots))
    have HQ := hide hroots
    have hq24 : q < 24 := by have := (unhide BD).roots; omega
    rw [hsync] at CP
    clear hroots
    go_enter Tryd.func53, Tryd.ntmps53
    go_wp2_with fail
    rw [show w.alloc (.cells #[.int .i64 10, .int .i64 a, .int .i64 b, .int .i64 c] 52) = W from unhide EW]
    refine (unhide CP).mono ?_
    rintro e w3 ⟨rfl, c', hto⟩
    obtain ⟨B', O3, _, h3⟩ := (unhide H1).imp (unhide HP) hto
    have H3 := hide h3
    have HP3 := hide (setP_at (p' := { p with B := B', mi := { p.mr with roots := p.mr.roots.take q }, c := c' }) (unhide HP))
    obtain ⟨g0, g1⟩ := ((unhide H3).pair (unhide HP3)).cells
    have CR := hide (refPop_ok p.R p.mr q w3 ((unhide H3).pair (unhide HP3)).2.2.1 (unhide HQ) (by omega))
    generalize p.mr.roots.getD q 0 = y at CR ⊢
    clear f0 g0 hto h3
    dsimp only at g1
    go_wp2_with fail
    refine (unhide CR).mono ?_
    rintro e w4 ⟨rfl, hrt⟩
    obtain ⟨R', O4, er, _, h4⟩ := (unhide H3).ref (unhide HP3) hrt
    have HF : Hid (Both H N0 w0 s i t w4) := by
      rw [setP_setP] at h4
      refine ⟨_, _, h4, (unhide OK).setP rfl ?_⟩
      have := hrun
      show p.mr.runs ≤ _ ∧ p.mr.since ≤ _ ∧ p.mr.kept ≤ _
      omega
    clear hrt h4 g1
    go_wp2
    go_ret
    exact ⟨rfl, unhide HF⟩

end Go.Proofs.YtgegkcjllliifabDoor
