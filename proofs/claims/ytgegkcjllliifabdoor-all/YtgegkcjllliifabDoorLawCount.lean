/-
  The walks of the law's counted and swept.
-/
import Derived.Test.YtgegkcjllliifabDoorLawAskS
namespace Go.Proofs.YtgegkcjllliifabDoor
open Go.RowKit

/-- Pair i holds what it held, maybe in other blocks; what the caller keeps is as it was. -/
def Same (H : HeapI) (N0 : Nat) (w0 w : World) (O : Nat → Nat × Nat) (s : LSt) (i : Nat) (p : PairS) (c : Cn) (w' : World) : Prop := ∃ B' O', Loc w O w' O' ∧ LawIs H N0 w0 w' O' (s.setP i { p with B := B', mi := p.mr, c := c })

theorem belowDrewN' (b : Nat) (w : World) (q : Nat) : Below b w (w.drewN q) := ⟨rfl, rfl, rfl, Nat.le_refl _, fun _ _ => rfl⟩

set_option maxRecDepth 10000 in
set_option maxHeartbeats 3200000 in
theorem counted_any {H : HeapI} {N0 : Nat} {w0 w : World} {O : Nat → Nat × Nat} {s : LSt} {i : Nat} {p : PairS} (h : LawIs H N0 w0 w O s) (hp : s.hs[i]? = some p) (hsync : p.mi = p.mr) (bd : p.mr.bd) :
    Calls Tryd.prog 77 #[.pointer (some ⟨p.pb, 0, none⟩)] w fun e w' => e = .returned (.bool true) ∧ Same H N0 w0 w O s i p p.c w' := by
  have H0 := hide h
  have HP := hide hp
  have BD := hide bd
  have SY := hide hsync
  obtain ⟨g0, g1⟩ := (h.pair hp).cells
  have CP := H.counts h.glob (h.pair hp).2.1.1
  have ck := H.cok (h.pair hp).2.1.1
  rw [hsync] at CP ck
  have CCP := hide CP
  have CK := hide ck
  clear h hp bd hsync CP ck
  go_enter Tryd.func77, Tryd.ntmps77
  go_wp2_with fail
  refine (unhide CCP).mono ?_
  rintro e w1 ⟨rfl, hto⟩
  obtain ⟨B', O1, l1, h1⟩ := (unhide H0).imp (unhide HP) hto
  have HP1 := hide (setP_at (p' := { p with B := B', mi := p.mr, c := p.c }) (unhide HP))
  have H1 := hide h1
  have L1 := hide l1
  obtain ⟨_, gg⟩ := (h1.pair (unhide HP1)).cells
  dsimp only at gg
  clear h1 l1 hto g0 g1
  have hpb : p.pb < w1.heap.size := heap_lt ((unhide H1).pair (unhide HP1)).1.1
  obtain ⟨W, EW⟩ : ∃ W, w1.alloc (.cells #[.int .i64 p.mr.objs.length, .int .i64 p.mr.words, .int .i64 p.mr.runs, .int .i64 p.c.again, .int .i64 p.c.used, .int .i64 p.c.unswept] 38) = W := ⟨_, rfl⟩
  have bW : Below w1.heap.size w1 W := by rw [← EW]; exact (Below.refl _ _).alloc (Nat.le_refl _) _
  have cW : W.heap[w1.heap.size]? = some (.cells #[.int .i64 p.mr.objs.length, .int .i64 p.mr.words, .int .i64 p.mr.runs, .int .i64 p.c.again, .int .i64 p.c.used, .int .i64 p.c.unswept] 38) := by rw [← EW]; exact heap_alloc_new _ _
  have H2 := hide ((unhide H1).quiet bW)
  have L2 := hide ((unhide L1).trans (Loc.of_below (8, 8) bW))
  have HEW := hide EW
  have BW := hide bW
  have CW := hide cW
  clear EW bW cW
  go_wp2_with fail
  rw [show w1.alloc (.cells #[.int .i64 p.mr.objs.length, .int .i64 p.mr.words, .int .i64 p.mr.runs, .int .i64 p.c.again, .int .i64 p.c.used, .int .i64 p.c.unswept] 38) = W from unhide HEW]
  have hr2 : RefIs W p.R p.mr := ((unhide H2).pair (unhide HP1)).2.2.1
  have CWo := hide (words_any p.R p.mr W hr2 (unhide BD))
  have CB := hide (busy_any p.R p.mr W hr2 (unhide BD))
  obtain ⟨_, gg2⟩ := ((unhide H2).pair (unhide HP1)).cells
  dsimp only at gg2
  refine (unhide CWo).mono ?_
  rintro e w2 ⟨rfl, rfl⟩
  clear gg hpb hr2 CWo
  go_wp2_with fail
  refine (unhide CB).mono ?_
  rintro e w3 ⟨rfl, hb3⟩
  have h3 := (unhide H2).quiet hb3
  have H3 := hide h3
  have L3 := hide ((unhide L2).trans (Loc.of_below (8, 8) hb3))
  have c3 : w3.heap[w1.heap.size]? = _ := (hb3.block _ (heap_lt (unhide CW))).trans (unhide CW)
  obtain ⟨_, gg3⟩ := (h3.pair (unhide HP1)).cells
  have hr3 : RefIs w3 p.R p.mr := (h3.pair (unhide HP1)).2.2.1
  obtain ⟨f0, f1, _, f3, _, _, _, f7, f8⟩ := hr3.cells
  obtain ⟨ao, cap, hv, hc1, hc2⟩ := ownsRow_shape hr3.ho
  rw [hv] at f3
  dsimp only at gg3
  have d0 := cell_of_row w3 w1.heap.size 0 _ _ _ c3
  have d1 := cell_of_row w3 w1.heap.size 1 _ _ _ c3
  have d2 := cell_of_row w3 w1.heap.size 2 _ _ _ c3
  have d3 := cell_of_row w3 w1.heap.size 3 _ _ _ c3
  have d4 := cell_of_row w3 w1.heap.size 4 _ _ _ c3
  have d5 := cell_of_row w3 w1.heap.size 5 _ _ _ c3
  simp only [List.getElem?_toArray, List.getElem?_cons_zero, List.getElem?_cons_succ] at d0 d1 d2 d3 d4 d5
  have HN : Hid (∀ q, Same H N0 w0 w O s i p p.c (w3.drewN q)) := hide fun q => ⟨B', _, (unhide L3).trans (Loc.of_below (8, 8) (belowDrewN' _ w3 q)), (unhide H3).quiet (belowDrewN' _ w3 q)⟩
  obtain ⟨k1, k2, k3, k4, k5, k6, k7, k8⟩ := unhide CK
  have q1 := (unhide BD).p2
  have q2 := (unhide BD).kept
  have q3 := (unhide BD).objs
  generalize p.mr.objs.length = ol at *
  generalize p.mr.words = wo at *
  generalize p.mr.runs = ru at *
  generalize p.mr.kept = ke at *
  generalize p.mr.stack = st at *
  generalize p.mr.pages = pg at *
  generalize p.mr.busy = bu at *
  generalize p.c.again = ag at *
  generalize p.c.used = us at *
  generalize p.c.unswept = un at *
  clear hb3 h3 hr3 hv c3 H3 L3 H2 L2 H1 L1 CK CW BW HEW HP1
  by_cases c : ke ≤ st
  · have ha := k3 c
    subst ha
    clear k3
    have b2 : decide ((ke : Int) + 1 < 0) = false := by simp; omega
    have b3 : decide ((ke : Int) ≤ (st : Int)) = true := by simp; omega
    have b4 : decide (us < (bu : Int)) = false := by simp; omega
    have b5 : decide ((pg : Int) < us) = false := by simp; omega
    have b6 : decide (un < 0) = false := by simp; omega
    have b7 : decide (us < un) = false := by simp; omega
    have b8 : decide (us - (bu : Int) ≤ un) = true := by simp; omega
    go_wp2_with fail
    go_quiet (fail)
    go_wp2_with fail
    go_quiet (fail)
    go_wp2_with fail
    go_quiet (fail)
    go_wp2_with fail
    go_ret
    exact ⟨rfl, unhide HN _⟩
  · clear k3
    have b1 : decide (ag < 0) = false := by simp; omega
    have b2 : decide ((ke : Int) + 1 < ag) = false := by simp; omega
    have b3 : decide ((ke : Int) ≤ (st : Int)) = false := by simp; omega
    have b4 : decide (us < (bu : Int)) = false := by simp; omega
    have b5 : decide ((pg : Int) < us) = false := by simp; omega
    have b6 : decide (un < 0) = false := by simp; omega
    have b7 : decide (us < un) = false := by simp; omega
    have b8 : decide (us - (bu : Int) ≤ un) = true := by simp; omega
    go_wp2_with fail
    go_quiet (fail)
    go_wp2_with fail
    go_quiet (fail)
    go_wp2_with fail
    go_quiet (fail)
    go_wp2_with fail
    go_ret
    exact ⟨rfl, unhide HN _⟩
end Go.Proofs.YtgegkcjllliifabDoor
