/-
  The walk of the law's asked at Store.
-/
import Derived.Test.YtgegkcjllliifabDoorLawAsk
import Derived.Test.YtgegkcjllliifabDoorRefStore
import Derived.Deep.RegionHeld2
namespace Go.Proofs.YtgegkcjllliifabDoor
open Go.RowKit

set_option maxRecDepth 10000 in
set_option maxHeartbeats 3200000 in
theorem asked_store {H : HeapI} {N0 : Nat} {w0 w : World} {O : Nat → Nat × Nat} {s : LSt} {i t : Nat} {p : PairS} (h : LawIs H N0 w0 w O s) (ok : Ok t s) (ht : t ≤ 2000000) (hp : s.hs[i]? = some p) (a b c : Int) (hb1 : -9223372036854775808 ≤ b) (hb2 : b ≤ 9223372036854775807) :
    Calls Tryd.prog 52 #[.pointer (some ⟨s.wB, 0, none⟩), .pointer (some ⟨p.pb, 0, none⟩), .agg #[.int .i64 7, .int .i64 a, .int .i64 b, .int .i64 c]] w fun e w' => e = .returned (.bool true) ∧ Next H N0 w0 s t w' := by
  obtain ⟨W, O1, eW, h1, bx, zW⟩ := h.boxed 7 a b c
  have EW := hide eW
  have H1 := hide h1
  have BX := hide bx
  have OK := hide ok
  have HP := hide hp
  have hsync := ok.sync i p hp
  have hrun := ok.runs i p hp
  have hg : Geo p.mr := by rw [← hsync]; exact H.geo (h.pair hp).2.1.1
  have BD := hide (bd_of hg hrun ht)
  have CW := hide (word_any h1 7 a b c hb1 hb2 (by have := ok.words; omega))
  obtain ⟨x, hx⟩ : ∃ x, wordOf s.words b c = x := ⟨_, rfl⟩
  rw [hx] at CW
  have HX := hide hx
  clear hx h h1 bx ok hp eW zW
  go_enter Tryd.func52, Tryd.ntmps52
  go_wp2_with fail
  rw [show w.alloc (.cells #[.int .i64 7, .int .i64 a, .int .i64 b, .int .i64 c] 52) = W from unhide EW]
  refine (unhide CW).mono ?_
  rintro e w2 ⟨rfl, hb⟩
  have H2 := hide ((unhide H1).quiet hb)
  have BX2 := hide (Loc.of_below (O := O1) (8, 8) hb 8 _ _ (unhide BX))
  obtain ⟨_, f1⟩ := ((unhide H2).pair (unhide HP)).cells
  have CWd := hide (word_gen p.R p.mr x w2 ((unhide H2).pair (unhide HP)).2.2.1 (unhide BD))
  clear hb
  go_wp2_with fail
  refine (unhide CWd).mono ?_
  rintro e w3 ⟨wi, wk, wf, rfl, wt, hb3⟩
  have WT := hide wt
  have H3 := hide ((unhide H2).quiet hb3)
  have BX3 := hide (Loc.of_below (8, 8) hb3 8 _ _ (unhide BX2))
  obtain ⟨_, f1'⟩ := ((unhide H3).pair (unhide HP)).cells
  have CF := hide (find_any p.R p.mr x w3 ((unhide H3).pair (unhide HP)).2.2.1 (unhide BD))
  clear hb3 wt f1
  go_wp2_with fail
  refine (unhide CF).mono ?_
  rintro e w4 ⟨rfl, hb4⟩
  have H4 := hide ((unhide H3).quiet hb4)
  have BX4 := hide (Loc.of_below (8, 8) hb4 8 _ _ (unhide BX3))
  obtain ⟨k0, _, _, _⟩ := opObj_cells (unhide BX4)
  obtain ⟨g0, g1⟩ := ((unhide H4).pair (unhide HP)).cells
  clear hb4 f1'
  have fv := (unhide H4).cells.2.2.1
  have HD := hide ((unhide H4).quiet (Below.refl w4.heap.size w4).drew)
  rcases unhide WT with ⟨x8, rfl, rfl, rfl⟩ | ⟨x8, hf, rfl, rfl, rfl⟩ | ⟨x8, rfl, j, hf, rfl, hj, rfl, j1, j2⟩
  · clear WT
    have CP := H.store_err x s.value (unhide HD).glob ((unhide HD).pair (unhide HP)).2.1.1 (by rw [hsync]; exact .inl x8)
    rw [if_pos x8] at CP
    have CCP := hide CP
    clear g1 CP
    go_wp2_with fail
    go_region_held2 (fun w' => w'.cell? ⟨p.pb, 0, none⟩ = some (.pointer (some ⟨p.a, 0, none⟩)) ∧ w'.cell? ⟨s.wB, 2, none⟩ = some (.int .i64 s.value)) (go_keep) ((go_at_call 22; refine (unhide CCP).mono ?_; rintro e w5 ⟨rfl, hto⟩; obtain ⟨B', O5, _, h5⟩ := (unhide HD).imp (unhide HP) hto; have H5 := hide h5; have HP5 := hide (setP_at (p' := { p with B := B', mi := p.mi, c := p.c }) (unhide HP)); obtain ⟨gg0, gg⟩ := ((unhide H5).pair (unhide HP5)).cells; have fv' := (unhide H5).cells.2.2.1; dsimp only [LSt.setP] at gg0 gg fv'; clear hto h5))
    have HN : Hid (Next H N0 w0 s t w5) := Both.next (i := i) ⟨_, _, unhide H5, (unhide OK).same (unhide HP) rfl rfl⟩
    clear g0 fv
    go_wp2
    go_ret
    exact ⟨rfl, unhide HN⟩
  · clear WT
    have CP := H.store_err x s.value (unhide HD).glob ((unhide HD).pair (unhide HP)).2.1.1 (by rw [hsync]; exact .inr hf)
    rw [if_neg (by omega)] at CP
    have CCP := hide CP
    clear g1 CP
    go_wp2_with fail
    go_region_held2 (fun w' => w'.cell? ⟨p.pb, 0, none⟩ = some (.pointer (some ⟨p.a, 0, none⟩)) ∧ w'.cell? ⟨s.wB, 2, none⟩ = some (.int .i64 s.value)) (go_keep) ((go_at_call 22; refine (unhide CCP).mono ?_; rintro e w5 ⟨rfl, hto⟩; obtain ⟨B', O5, _, h5⟩ := (unhide HD).imp (unhide HP) hto; have H5 := hide h5; have HP5 := hide (setP_at (p' := { p with B := B', mi := p.mi, c := p.c }) (unhide HP)); obtain ⟨gg0, gg⟩ := ((unhide H5).pair (unhide HP5)).cells; have fv' := (unhide H5).cells.2.2.1; dsimp only [LSt.setP] at gg0 gg fv'; clear hto h5))
    have HN : Hid (Next H N0 w0 s t w5) := Both.next (i := i) ⟨_, _, unhide H5, (unhide OK).same (unhide HP) rfl rfl⟩
    clear g0 fv
    go_wp2
    go_ret
    exact ⟨rfl, unhide HN⟩
  · clear WT
    obtain ⟨kk, hkk⟩ : ∃ kk : Nat, (x - (p.mr.objs[j]).pos) / 8 = kk := ⟨((x - (p.mr.objs[j]).pos) / 8).toNat, by omega⟩
    have hkl : kk < (p.mr.objs[j]).ws.length := by omega
    have hkl' : kk < (p.mi.objs[j]'(by rw [hsync]; exact hj)).ws.length := by simp only [hsync]; exact hkl
    have CP := H.store_ok x s.value j kk (by rw [hsync]; exact hj) hkl' (unhide HD).glob ((unhide HD).pair (unhide HP)).2.1.1 x8 (by rw [hsync]; exact hf) (by simp only [hsync]; exact hkk)
    simp only [hsync] at CP
    obtain ⟨m', hm'⟩ : ∃ m' : Mo, { p.mr with objs := p.mr.objs.set j { p.mr.objs[j] with ws := (p.mr.objs[j]).ws.set kk s.value } } = m' := ⟨_, rfl⟩
    rw [hm'] at CP
    have CCP := hide CP
    have HM := hide hm'
    have hwl := ((unhide BD).pos j hj).2.2
    rw [hkk, hf]
    clear hf g1 CP hm' hkl' hkk x8 j1 j2
    go_wp2_with fail
    go_region_held2 (fun w' => w'.cell? ⟨p.pb, 0, none⟩ = some (.pointer (some ⟨p.a, 0, none⟩)) ∧ w'.cell? ⟨s.wB, 2, none⟩ = some (.int .i64 s.value)) (go_keep) ((go_at_call 22; refine (unhide CCP).mono ?_; rintro e w5 ⟨rfl, c', hto⟩; obtain ⟨B', O5, _, h5⟩ := (unhide HD).imp (unhide HP) hto; have H5 := hide h5; have HP5 := hide (setP_at (p' := { p with B := B', mi := m', c := c' }) (unhide HP)); obtain ⟨gg0, gg⟩ := ((unhide H5).pair (unhide HP5)).cells; have fv' := (unhide H5).cells.2.2.1; dsimp only [LSt.setP] at gg0 gg fv'; clear hto h5))
    have hr5 : RefIs w5 p.R p.mr := ((unhide H5).pair (unhide HP5)).2.2.1
    have fo := hr5.cells.2.2.2.1
    obtain ⟨g, cap, hv, hg, hc1, hc2, o0, o1, o2⟩ := hr5.ob j hj
    have ow := hr5.word j kk hj hkl
    obtain ⟨y, hy⟩ : ∃ y, (p.mr.objs[j]).ws[kk] = y := ⟨_, rfl⟩
    rw [hy] at ow
    clear hy
    have z0 : w5.frozen? ⟨p.R.wAt j, kk, none⟩ = false := frozen_of_row w5 _ kk _ _ (hr5.hw j hj)
    have HSt := hide (hr5.storeWord j kk hj s.value)
    rw [unhide HM] at HSt
    have HFin : Hid (∀ w6, RefTo w5 p.R m' w6 → Next H N0 w0 s t w6) := by
      refine hide fun w6 hrt => ?_
      obtain ⟨R', O6, _, _, h6⟩ := (unhide H5).ref (unhide HP5) hrt
      rw [setP_setP] at h6
      refine Both.next (i := i) ⟨_, _, h6, (unhide OK).setP rfl ?_⟩
      have := hrun
      show m'.runs ≤ _ ∧ m'.since ≤ _ ∧ m'.kept ≤ _
      rw [← unhide HM]
      show p.mr.runs ≤ _ ∧ p.mr.since ≤ _ ∧ p.mr.kept ≤ _
      omega
    rw [hv] at fo
    unfold maxLen at hc2
    have hol := (unhide BD).objs
    clear g0 fv hr5 hv o0 o1
    generalize (p.mr.objs[j]).ws.length = len at *
    go_wp2
    go_region
    have HN := hide ((unhide HFin) _ (unhide HSt).drew)
    go_wp2
    go_ret
    exact ⟨rfl, unhide HN⟩

end Go.Proofs.YtgegkcjllliifabDoor
