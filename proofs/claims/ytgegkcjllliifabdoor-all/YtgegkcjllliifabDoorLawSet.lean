/-
  The walk of the law's rooted at Set.
-/
import Derived.Test.YtgegkcjllliifabDoorLawRooted
import Derived.Deep.RegionHeld2
namespace Go.Proofs.YtgegkcjllliifabDoor
open Go.RowKit

set_option maxHeartbeats 1600000 in
theorem rooted_set {H : HeapI} {N0 : Nat} {w0 w : World} {O : Nat → Nat × Nat} {s : LSt} {i t : Nat} {p : PairS} (h : LawIs H N0 w0 w O s) (ok : Ok t s) (ht : t ≤ 2000000) (hp : s.hs[i]? = some p) (a b c : Int) :
    Calls Tryd.prog 53 #[.pointer (some ⟨s.wB, 0, none⟩), .pointer (some ⟨p.pb, 0, none⟩), .agg #[.int .i64 11, .int .i64 a, .int .i64 b, .int .i64 c]] w fun e w' => e = .returned (.bool true) ∧ Both H N0 w0 s i t w' := by
  obtain ⟨W, O1, eW, h1, bx, zW⟩ := h.boxed 11 a b c
  have EW := hide eW
  have H1 := hide h1
  have BX := hide bx
  have OK := hide ok
  have HP := hide hp
  have hsync := ok.sync i p hp
  have hrun := ok.runs i p hp
  have hg : Geo p.mr := by rw [← hsync]; exact H.geo (h.pair hp).2.1.1
  have BD := hide (bd_of hg hrun ht)
  obtain ⟨f0, f1⟩ := (h1.pair hp).cells
  have fv := h1.cells.2.2.1
  obtain ⟨k0, k1, k2, k3⟩ := opObj_cells bx
  clear h h1 bx ok hp f1 k0 k1 k3
  go_enter Tryd.func53, Tryd.ntmps53
  go_wp2_with fail
  rw [show w.alloc (.cells #[.int .i64 11, .int .i64 a, .int .i64 b, .int .i64 c] 52) = W from unhide EW]
  clear eW zW
  have HD := hide ((unhide H1).quiet (Below.refl W.heap.size W).drew)
  have BD1 := hide (Loc.of_below (O := O1) (8, 8) (Below.refl W.heap.size W).drew 8 _ _ (unhide BX))
  by_cases cf : 0 ≤ b ∧ b < (p.mr.roots.length : Int)
  · obtain ⟨bn, rfl⟩ := Int.eq_ofNat_of_zero_le cf.1
    have hbn : bn < p.mr.roots.length := by omega
    have CP := hide (H.set_ok bn s.value (unhide HD).glob ((unhide HD).pair (unhide HP)).2.1.1 (by rw [hsync]; exact hbn))
    rw [hsync] at CP
    clear cf
    go_region_held2 (fun w' => w'.cell? ⟨p.pb, 0, none⟩ = some (.pointer (some ⟨p.a, 0, none⟩)) ∧ w'.cell? ⟨w.heap.size, 2, none⟩ = some (.int .i64 bn) ∧ w'.cell? ⟨s.wB, 2, none⟩ = some (.int .i64 s.value)) (go_keep) ((go_at_call 23; refine (unhide CP).mono ?_; rintro e w3 ⟨rfl, c', hto⟩; obtain ⟨B', O3, l3, h3⟩ := (unhide HD).imp (unhide HP) hto; have H3 := hide h3; have HP3 := hide (setP_at (p' := { p with B := B', mi := { p.mr with roots := p.mr.roots.set bn s.value }, c := c' }) (unhide HP)); obtain ⟨g0, g1⟩ := ((unhide H3).pair (unhide HP3)).cells; have BX3 := hide (l3 _ _ _ (unhide BD1)); obtain ⟨_, _, k2', _⟩ := opObj_cells (unhide BX3); have fv' := (unhide H3).cells.2.2.1; dsimp only [LSt.setP] at g0 g1 fv'; clear hto h3 l3))
    clear f0 fv k2
    have H4 := hide ((unhide H3).quiet (Below.refl w3.heap.size w3).drew)
    have CR := hide (refSet_ok p.R p.mr bn s.value w3.drew ((unhide H4).pair (unhide HP3)).2.2.1 hbn)
    go_wp2_with fail
    go_region_held2 (fun w' => w'.cell? ⟨p.pb, 1, none⟩ = some (.pointer (some ⟨p.R.r, 0, none⟩)) ∧ w'.cell? ⟨w.heap.size, 2, none⟩ = some (.int .i64 bn) ∧ w'.cell? ⟨s.wB, 2, none⟩ = some (.int .i64 s.value)) (go_keep) ((go_at_call 74; refine (unhide CR).mono ?_; rintro e w5 ⟨rfl, hrt⟩; obtain ⟨R', O5, er, l5, h5⟩ := (unhide H4).ref (unhide HP3) hrt; have L5 := hide l5; have H5 := hide h5; have E5 := hide er; have HP5 := hide (setP_at (p' := { p with B := B', mi := { p.mr with roots := p.mr.roots.set bn s.value }, c := c', R := R', mr := { p.mr with roots := p.mr.roots.set bn s.value } }) (unhide HP3)); obtain ⟨_, gg1⟩ := ((unhide H5).pair (unhide HP5)).cells; obtain ⟨_, _, kk2, _⟩ := opObj_cells (l5 _ _ _ (Loc.of_below (O := O3) (8, 8) (Below.refl w3.heap.size w3).drew _ _ _ (unhide BX3))); have ff := (unhide H5).cells.2.2.1; dsimp only [LSt.setP] at gg1 ff; rw [er] at gg1; clear hrt h5 l5 er))
    have HF : Hid (Both H N0 w0 s i t w5) := by
      have h5 := unhide H5
      rw [setP_setP] at h5
      refine ⟨_, _, h5, (unhide OK).setP rfl ?_⟩
      have := hrun
      show p.mr.runs ≤ _ ∧ p.mr.since ≤ _ ∧ p.mr.kept ≤ _
      omega
    go_wp2
    go_ret
    exact ⟨rfl, unhide HF⟩
  · have CP := hide (H.set_none b s.value (unhide HD).glob ((unhide HD).pair (unhide HP)).2.1.1 (by rw [hsync]; omega))
    go_region_held2 (fun w' => w'.cell? ⟨p.pb, 0, none⟩ = some (.pointer (some ⟨p.a, 0, none⟩)) ∧ w'.cell? ⟨w.heap.size, 2, none⟩ = some (.int .i64 b) ∧ w'.cell? ⟨s.wB, 2, none⟩ = some (.int .i64 s.value)) (go_keep) ((go_at_call 23; refine (unhide CP).mono ?_; rintro e w3 ⟨rfl, hto⟩; obtain ⟨B', O3, l3, h3⟩ := (unhide HD).imp (unhide HP) hto; have H3 := hide h3; have HP3 := hide (setP_at (p' := { p with B := B', mi := p.mi, c := p.c }) (unhide HP)); obtain ⟨g0, g1⟩ := ((unhide H3).pair (unhide HP3)).cells; have BX3 := hide (l3 _ _ _ (unhide BD1)); obtain ⟨_, _, k2', _⟩ := opObj_cells (unhide BX3); have fv' := (unhide H3).cells.2.2.1; dsimp only [LSt.setP] at g0 g1 fv'; clear hto h3 l3))
    clear f0 fv k2
    have H4 := hide ((unhide H3).quiet (Below.refl w3.heap.size w3).drew)
    have CR := hide (refSet_none p.R p.mr b s.value w3.drew ((unhide H4).pair (unhide HP3)).2.2.1 (by omega))
    have HF : Hid (Both H N0 w0 s i t w3.drew) := by
      refine ⟨_, _, unhide H4, (unhide OK).setP hsync ?_⟩
      have := hrun
      show p.mr.runs ≤ _ ∧ p.mr.since ≤ _ ∧ p.mr.kept ≤ _
      omega
    go_wp2_with fail
    go_region_held2 (fun w' => w'.cell? ⟨p.pb, 1, none⟩ = some (.pointer (some ⟨p.R.r, 0, none⟩)) ∧ w'.cell? ⟨w.heap.size, 2, none⟩ = some (.int .i64 b) ∧ w'.cell? ⟨s.wB, 2, none⟩ = some (.int .i64 s.value)) (go_keep) ((go_at_call 74; refine (unhide CR).mono ?_; rintro e w5 ⟨rfl, rfl⟩))
    go_wp2
    go_ret
    exact ⟨rfl, unhide HF⟩
end Go.Proofs.YtgegkcjllliifabDoor
