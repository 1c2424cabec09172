/-
  The walk of the law's asked.
-/
import Derived.Test.YtgegkcjllliifabDoorLawLaid
namespace Go.Proofs.YtgegkcjllliifabDoor
open Go.RowKit

/-- What Word answers. -/
def WordTo' (m : Mo) (x i k f : Int) : Prop := (x % 8 ≠ 0 ∧ i = 0 ∧ k = 0 ∧ f = 4) ∨ (x % 8 = 0 ∧ m.find x = -1 ∧ i = 0 ∧ k = 0 ∧ f = 5) ∨ (x % 8 = 0 ∧ f = 0 ∧ ∃ j : Nat, m.find x = j ∧ i = j ∧ ∃ hj : j < m.objs.length, k = (x - (m.objs[j]).pos) / 8 ∧ (m.objs[j]).pos ≤ x ∧ x < (m.objs[j]).pos + 8 * ((m.objs[j]).ws.length : Int))
theorem word_gen (R : RL) (m : Mo) (x : Int) (w : World) (h : RefIs w R m) (bd : m.bd) :
    Calls Tryd.prog 68 #[.pointer (some ⟨R.r, 0, none⟩), .int .i64 x] w fun e w' => ∃ i k f : Int, e = .returned (.tuple #[.int .i64 i, .int .i64 k, .int .i64 f]) ∧ WordTo' m x i k f ∧ Below w.heap.size w w' := by
  by_cases c : x % 8 = 0
  · rcases find_cases m x with hf | ⟨j, hf, hj, h1, h2⟩
    · refine (word_none R m x w h bd c hf).mono ?_
      rintro e w' ⟨rfl, hb⟩
      exact ⟨0, 0, 5, rfl, .inr (.inl ⟨c, hf, rfl, rfl, rfl⟩), hb⟩
    · refine (word_some R m x j w h bd c hf hj h1 h2).mono ?_
      rintro e w' ⟨rfl, hb⟩
      exact ⟨j, _, 0, rfl, .inr (.inr ⟨c, rfl, j, hf, rfl, hj, rfl, h1, h2⟩), hb⟩
  · refine (word_align R x w c).mono ?_
    rintro e w' ⟨rfl, rfl⟩
    exact ⟨0, 0, 4, rfl, .inl ⟨c, rfl, rfl, rfl⟩, Below.refl _ _⟩

theorem next_keep {H : HeapI} {N0 : Nat} {w0 w' : World} {O' : Nat → Nat × Nat} {s : LSt} {i t : Nat} {p' : PairS} {v : Value} {x : Int} (h : LawIs H N0 w0 w' O' ((s.setP i p').keepW v x)) (ok : Ok (t + 1) (s.setP i p')) (hw : s.words.length ≤ t) : Next H N0 w0 s t w' :=
  ⟨(s.setP i p').keepW v x, O', rfl, h, ok.keepW v x hw⟩
/-- The pair as it was, its blocks others. -/
theorem Ok.same {t : Nat} {s : LSt} {i : Nat} {p p' : PairS} (ok : Ok t s) (hp : s.hs[i]? = some p) (h1 : p'.mi = p.mi) (h2 : p'.mr = p.mr) : Ok (t + 1) (s.setP i p') := by
  have hs := ok.sync i p hp
  have hr := ok.runs i p hp
  exact ok.setP (by rw [h1, h2]; exact hs) (by rw [h2]; omega)

set_option maxRecDepth 10000 in
set_option maxHeartbeats 3200000 in
theorem asked_free {H : HeapI} {N0 : Nat} {w0 w : World} {O : Nat → Nat × Nat} {s : LSt} {i t : Nat} {p : PairS} (h : LawIs H N0 w0 w O s) (ok : Ok t s) (ht : t ≤ 2000000) (hp : s.hs[i]? = some p) (a b c : Int) (hb1 : -9223372036854775808 ≤ b) (hb2 : b ≤ 9223372036854775807) :
    Calls Tryd.prog 52 #[.pointer (some ⟨s.wB, 0, none⟩), .pointer (some ⟨p.pb, 0, none⟩), .agg #[.int .i64 3, .int .i64 a, .int .i64 b, .int .i64 c]] w fun e w' => e = .returned (.bool true) ∧ Next H N0 w0 s t w' := by
  obtain ⟨W, O1, eW, h1, bx, zW⟩ := h.boxed 3 a b c
  have EW := hide eW
  have H1 := hide h1
  have BX := hide bx
  have OK := hide ok
  have HP := hide hp
  have hsync := ok.sync i p hp
  have hrun := ok.runs i p hp
  have hg : Geo p.mr := by rw [← hsync]; exact H.geo (h.pair hp).2.1.1
  have BD := hide (bd_of hg hrun ht)
  have CW := hide (word_any h1 3 a b c hb1 hb2 (by have := ok.words; omega))
  obtain ⟨x, hx⟩ : ∃ x, wordOf s.words b c = x := ⟨_, rfl⟩
  rw [hx] at CW
  have HX := hide hx
  clear hx h h1 bx ok hp eW zW
  go_enter Tryd.func52, Tryd.ntmps52
  go_wp2_with fail
  rw [show w.alloc (.cells #[.int .i64 3, .int .i64 a, .int .i64 b, .int .i64 c] 52) = W from unhide EW]
  refine (unhide CW).mono ?_
  rintro e w2 ⟨rfl, hb⟩
  have H2 := hide ((unhide H1).quiet hb)
  have BX2 := hide (Loc.of_below (O := O1) (8, 8) hb 8 _ _ (unhide BX))
  obtain ⟨_, f1⟩ := ((unhide H2).pair (unhide HP)).cells
  have CWd := hide (word_gen p.R p.mr x w2 ((unhide H2).pair (unhide HP)).2.2.1 (unhide BD))
  clear hb
  go_wp2_with fail
  refine (unhide CWd).mono ?_
  rintro e w3 ⟨wi, wk, wf, rfl, wt, hb3⟩
  have WT := hide wt
  have H3 := hide ((unhide H2).quiet hb3)
  have BX3 := hide (Loc.of_below (8, 8) hb3 8 _ _ (unhide BX2))
  obtain ⟨_, f1'⟩ := ((unhide H3).pair (unhide HP)).cells
  have CF := hide (find_any p.R p.mr x w3 ((unhide H3).pair (unhide HP)).2.2.1 (unhide BD))
  clear hb3 wt f1
  go_wp2_with fail
  refine (unhide CF).mono ?_
  rintro e w4 ⟨rfl, hb4⟩
  have H4 := hide ((unhide H3).quiet hb4)
  have BX4 := hide (Loc.of_below (8, 8) hb4 8 _ _ (unhide BX3))
  obtain ⟨k0, _, _, _⟩ := opObj_cells (unhide BX4)
  obtain ⟨g0, g1⟩ := ((unhide H4).pair (unhide HP)).cells
  clear hb4 f1'
  rcases find_cases p.mr x with hf | ⟨j, hf, hj, j1, j2⟩
  · have CP := hide (H.free_none x (unhide H4).glob ((unhide H4).pair (unhide HP)).2.1.1 (by rw [hsync]; exact hf))
    have HF := hide hf
    clear hf g1
    go_wp2_with fail
    refine (unhide CP).mono ?_
    rintro e w5 ⟨rfl, hto⟩
    obtain ⟨B', O5, _, h5⟩ := (unhide H4).imp (unhide HP) hto
    have H5 := hide h5
    have HP5 := hide (setP_at (p' := { p with B := B', mi := p.mi, c := p.c }) (unhide HP))
    obtain ⟨_, gg⟩ := ((unhide H5).pair (unhide HP5)).cells
    have CR := hide (free_none p.R p.mr x w5 ((unhide H5).pair (unhide HP5)).2.2.1 (unhide BD) (unhide HF))
    clear g0 hto h5
    dsimp only at gg
    go_wp2_with fail
    refine (unhide CR).mono ?_
    rintro e w6 ⟨rfl, hb6⟩
    have HN : Hid (Next H N0 w0 s t w6) := Both.next (i := i) ⟨_, _, (unhide H5).quiet hb6, (unhide OK).same (unhide HP) rfl rfl⟩
    clear hb6 gg
    go_wp2
    go_ret
    exact ⟨rfl, unhide HN⟩
  · by_cases hpos : (p.mr.objs[j]).pos = x
    · have CP := H.free_ok x j (by rw [hsync]; exact hj) (unhide H4).glob ((unhide H4).pair (unhide HP)).2.1.1 (by rw [hsync]; exact hf) (by simp only [hsync]; exact hpos)
      rw [hsync] at CP
      have CCP := hide CP
      have HF := hide hf
      have HPOS := hide hpos
      clear hf g1 CP hpos
      go_wp2_with fail
      refine (unhide CCP).mono ?_
      rintro e w5 ⟨rfl, c', hto⟩
      obtain ⟨B', O5, _, h5⟩ := (unhide H4).imp (unhide HP) hto
      have H5 := hide h5
      have HP5 := hide (setP_at (p' := { p with B := B', mi := { p.mr with objs := p.mr.objs.eraseIdx j }, c := c' }) (unhide HP))
      obtain ⟨_, gg⟩ := ((unhide H5).pair (unhide HP5)).cells
      have CR := hide (free_some p.R p.mr x j w5 ((unhide H5).pair (unhide HP5)).2.2.1 (unhide BD) (unhide HF) hj (unhide HPOS))
      clear g0 hto h5
      dsimp only at gg
      go_wp2_with fail
      refine (unhide CR).mono ?_
      rintro e w6 ⟨rfl, hrt⟩
      obtain ⟨R', O6, _, _, h6⟩ := (unhide H5).ref (unhide HP5) hrt
      have HN : Hid (Next H N0 w0 s t w6) := by
        rw [setP_setP] at h6
        refine Both.next (i := i) ⟨_, _, h6, (unhide OK).setP rfl ?_⟩
        have := hrun
        show p.mr.runs ≤ _ ∧ p.mr.since ≤ _ ∧ p.mr.kept ≤ _
        omega
      clear hrt h6 gg
      go_wp2
      go_ret
      exact ⟨rfl, unhide HN⟩
    · have CP := H.free_base x j (by rw [hsync]; exact hj) (unhide H4).glob ((unhide H4).pair (unhide HP)).2.1.1 (by rw [hsync]; exact hf) (by simp only [hsync]; exact hpos)
      have CCP := hide CP
      have HF := hide hf
      have HPOS := hide hpos
      clear hf g1 CP hpos
      go_wp2_with fail
      refine (unhide CCP).mono ?_
      rintro e w5 ⟨rfl, hto⟩
      obtain ⟨B', O5, _, h5⟩ := (unhide H4).imp (unhide HP) hto
      have H5 := hide h5
      have HP5 := hide (setP_at (p' := { p with B := B', mi := p.mi, c := p.c }) (unhide HP))
      obtain ⟨_, gg⟩ := ((unhide H5).pair (unhide HP5)).cells
      have CR := hide (free_base p.R p.mr x j w5 ((unhide H5).pair (unhide HP5)).2.2.1 (unhide BD) (unhide HF) hj (unhide HPOS))
      clear g0 hto h5
      dsimp only at gg
      go_wp2_with fail
      refine (unhide CR).mono ?_
      rintro e w6 ⟨rfl, hb6⟩
      have HN : Hid (Next H N0 w0 s t w6) := Both.next (i := i) ⟨_, _, (unhide H5).quiet hb6, (unhide OK).same (unhide HP) rfl rfl⟩
      clear hb6 gg
      go_wp2
      go_ret
      exact ⟨rfl, unhide HN⟩

set_option maxRecDepth 10000 in
set_option maxHeartbeats 3200000 in
theorem asked_size {H : HeapI} {N0 : Nat} {w0 w : World} {O : Nat → Nat × Nat} {s : LSt} {i t : Nat} {p : PairS} (h : LawIs H N0 w0 w O s) (ok : Ok t s) (ht : t ≤ 2000000) (hp : s.hs[i]? = some p) (a b c : Int) (hb1 : -9223372036854775808 ≤ b) (hb2 : b ≤ 9223372036854775807) :
    Calls Tryd.prog 52 #[.pointer (some ⟨s.wB, 0, none⟩), .pointer (some ⟨p.pb, 0, none⟩), .agg #[.int .i64 5, .int .i64 a, .int .i64 b, .int .i64 c]] w fun e w' => e = .returned (.bool true) ∧ Next H N0 w0 s t w' := by
  obtain ⟨W, O1, eW, h1, bx, zW⟩ := h.boxed 5 a b c
  have EW := hide eW
  have H1 := hide h1
  have BX := hide bx
  have OK := hide ok
  have HP := hide hp
  have hsync := ok.sync i p hp
  have hrun := ok.runs i p hp
  have hg : Geo p.mr := by rw [← hsync]; exact H.geo (h.pair hp).2.1.1
  have BD := hide (bd_of hg hrun ht)
  have CW := hide (word_any h1 5 a b c hb1 hb2 (by have := ok.words; omega))
  obtain ⟨x, hx⟩ : ∃ x, wordOf s.words b c = x := ⟨_, rfl⟩
  rw [hx] at CW
  have HX := hide hx
  clear hx h h1 bx ok hp eW zW
  go_enter Tryd.func52, Tryd.ntmps52
  go_wp2_with fail
  rw [show w.alloc (.cells #[.int .i64 5, .int .i64 a, .int .i64 b, .int .i64 c] 52) = W from unhide EW]
  refine (unhide CW).mono ?_
  rintro e w2 ⟨rfl, hb⟩
  have H2 := hide ((unhide H1).quiet hb)
  have BX2 := hide (Loc.of_below (O := O1) (8, 8) hb 8 _ _ (unhide BX))
  obtain ⟨_, f1⟩ := ((unhide H2).pair (unhide HP)).cells
  have CWd := hide (word_gen p.R p.mr x w2 ((unhide H2).pair (unhide HP)).2.2.1 (unhide BD))
  clear hb
  go_wp2_with fail
  refine (unhide CWd).mono ?_
  rintro e w3 ⟨wi, wk, wf, rfl, wt, hb3⟩
  have WT := hide wt
  have H3 := hide ((unhide H2).quiet hb3)
  have BX3 := hide (Loc.of_below (8, 8) hb3 8 _ _ (unhide BX2))
  obtain ⟨_, f1'⟩ := ((unhide H3).pair (unhide HP)).cells
  have CF := hide (find_any p.R p.mr x w3 ((unhide H3).pair (unhide HP)).2.2.1 (unhide BD))
  clear hb3 wt f1
  go_wp2_with fail
  refine (unhide CF).mono ?_
  rintro e w4 ⟨rfl, hb4⟩
  have H4 := hide ((unhide H3).quiet hb4)
  have BX4 := hide (Loc.of_below (8, 8) hb4 8 _ _ (unhide BX3))
  obtain ⟨k0, _, _, _⟩ := opObj_cells (unhide BX4)
  obtain ⟨g0, g1⟩ := ((unhide H4).pair (unhide HP)).cells
  clear hb4 f1'
  rcases find_cases p.mr x with hf | ⟨j, hf, hj, j1, j2⟩
  · have CP := hide (H.size_none x (unhide H4).glob ((unhide H4).pair (unhide HP)).2.1.1 (by rw [hsync]; exact hf))
    rw [hf]
    clear hf g1
    go_wp2_with fail
    refine (unhide CP).mono ?_
    rintro e w5 ⟨rfl, hto⟩
    obtain ⟨B', O5, _, h5⟩ := (unhide H4).imp (unhide HP) hto
    have HN : Hid (Next H N0 w0 s t w5) := Both.next (i := i) ⟨_, _, h5, (unhide OK).same (unhide HP) rfl rfl⟩
    clear g0 hto h5
    go_wp2
    go_ret
    exact ⟨rfl, unhide HN⟩
  · have CP := H.size_ok x j (by rw [hsync]; exact hj) (unhide H4).glob ((unhide H4).pair (unhide HP)).2.1.1 (by rw [hsync]; exact hf)
    simp only [hsync] at CP
    have CCP := hide CP
    rw [hf]
    clear hf g1 CP
    go_wp2_with fail
    refine (unhide CCP).mono ?_
    rintro e w5 ⟨rfl, hto⟩
    obtain ⟨B', O5, _, h5⟩ := (unhide H4).imp (unhide HP) hto
    have HP5 := setP_at (p' := { p with B := B', mi := p.mr, c := p.c }) (unhide HP)
    obtain ⟨_, gg⟩ := (h5.pair HP5).cells
    have hr5 : RefIs w5 p.R p.mr := (h5.pair HP5).2.2.1
    have fo := hr5.cells.2.2.2.1
    obtain ⟨g, cap, hv, hg, hc1, hc2, o0, o1, o2⟩ := hr5.ob j hj
    rw [hv] at fo
    unfold maxLen at hc2
    have hol := (unhide BD).objs
    have hwl := ((unhide BD).pos j hj).2.2
    have HN : Hid (Next H N0 w0 s t w5) := Both.next (i := i) ⟨_, _, h5, (unhide OK).setP (by first | rfl | exact hsync) (by
        have := hrun
        show p.mr.runs ≤ _ ∧ p.mr.since ≤ _ ∧ p.mr.kept ≤ _
        omega)⟩
    dsimp only at gg
    generalize (p.mr.objs[j]).ws.length = len at *
    clear g0 hto h5 hr5 hv HP5 o0 o1
    go_wp2
    go_ret
    exact ⟨rfl, unhide HN⟩

set_option maxRecDepth 10000 in
set_option maxHeartbeats 3200000 in
theorem asked_base {H : HeapI} {N0 : Nat} {w0 w : World} {O : Nat → Nat × Nat} {s : LSt} {i t : Nat} {p : PairS} (h : LawIs H N0 w0 w O s) (ok : Ok t s) (ht : t ≤ 2000000) (hp : s.hs[i]? = some p) (a b c : Int) (hb1 : -9223372036854775808 ≤ b) (hb2 : b ≤ 9223372036854775807) :
    Calls Tryd.prog 52 #[.pointer (some ⟨s.wB, 0, none⟩), .pointer (some ⟨p.pb, 0, none⟩), .agg #[.int .i64 4, .int .i64 a, .int .i64 b, .int .i64 c]] w fun e w' => e = .returned (.bool true) ∧ Next H N0 w0 s t w' := by
  obtain ⟨W, O1, eW, h1, bx, zW⟩ := h.boxed 4 a b c
  have EW := hide eW
  have H1 := hide h1
  have BX := hide bx
  have OK := hide ok
  have HP := hide hp
  have hsync := ok.sync i p hp
  have hrun := ok.runs i p hp
  have hg : Geo p.mr := by rw [← hsync]; exact H.geo (h.pair hp).2.1.1
  have BD := hide (bd_of hg hrun ht)
  have CW := hide (word_any h1 4 a b c hb1 hb2 (by have := ok.words; omega))
  obtain ⟨x, hx⟩ : ∃ x, wordOf s.words b c = x := ⟨_, rfl⟩
  rw [hx] at CW
  have HX := hide hx
  clear hx h h1 bx ok hp eW zW
  go_enter Tryd.func52, Tryd.ntmps52
  go_wp2_with fail
  rw [show w.alloc (.cells #[.int .i64 4, .int .i64 a, .int .i64 b, .int .i64 c] 52) = W from unhide EW]
  refine (unhide CW).mono ?_
  rintro e w2 ⟨rfl, hb⟩
  have H2 := hide ((unhide H1).quiet hb)
  have BX2 := hide (Loc.of_below (O := O1) (8, 8) hb 8 _ _ (unhide BX))
  obtain ⟨_, f1⟩ := ((unhide H2).pair (unhide HP)).cells
  have CWd := hide (word_gen p.R p.mr x w2 ((unhide H2).pair (unhide HP)).2.2.1 (unhide BD))
  clear hb
  go_wp2_with fail
  refine (unhide CWd).mono ?_
  rintro e w3 ⟨wi, wk, wf, rfl, wt, hb3⟩
  have WT := hide wt
  have H3 := hide ((unhide H2).quiet hb3)
  have BX3 := hide (Loc.of_below (8, 8) hb3 8 _ _ (unhide BX2))
  obtain ⟨_, f1'⟩ := ((unhide H3).pair (unhide HP)).cells
  have CF := hide (find_any p.R p.mr x w3 ((unhide H3).pair (unhide HP)).2.2.1 (unhide BD))
  clear hb3 wt f1
  go_wp2_with fail
  refine (unhide CF).mono ?_
  rintro e w4 ⟨rfl, hb4⟩
  have H4 := hide ((unhide H3).quiet hb4)
  have BX4 := hide (Loc.of_below (8, 8) hb4 8 _ _ (unhide BX3))
  obtain ⟨k0, _, _, _⟩ := opObj_cells (unhide BX4)
  obtain ⟨g0, g1⟩ := ((unhide H4).pair (unhide HP)).cells
  clear hb4 f1'
  rcases find_cases p.mr x with hf | ⟨j, hf, hj, j1, j2⟩
  · have CP := hide (H.base_none x (unhide H4).glob ((unhide H4).pair (unhide HP)).2.1.1 (by rw [hsync]; exact hf))
    rw [hf]
    clear hf g1
    go_wp2_with fail
    refine (unhide CP).mono ?_
    rintro e w5 ⟨rfl, hto⟩
    obtain ⟨B', O5, _, h5⟩ := (unhide H4).imp (unhide HP) hto
    have CK := hide (kept_any h5 0 (by have := (unhide OK).words; show s.words.length ≤ _; omega))
    clear g0 hto h5
    go_wp2_with fail
    refine (unhide CK).mono ?_
    rintro e w6 ⟨rfl, v6, O6, _, h6⟩
    have HN : Hid (Next H N0 w0 s t w6) := next_keep (i := i) (p' := { p with B := B', mi := p.mi, c := p.c }) h6 ((unhide OK).same (unhide HP) rfl rfl) (unhide OK).words
    clear h6
    go_wp2
    go_ret
    exact ⟨rfl, unhide HN⟩
  · have CP := H.base_ok x j (by rw [hsync]; exact hj) (unhide H4).glob ((unhide H4).pair (unhide HP)).2.1.1 (by rw [hsync]; exact hf)
    simp only [hsync] at CP
    have CCP := hide CP
    have hps := (unhide BD).pos j hj
    obtain ⟨y, hy⟩ : ∃ y, (p.mr.objs[j]).pos = y := ⟨_, rfl⟩
    rw [hy] at CCP hps
    have HY := hide hy
    rw [hf]
    clear hf g1 CP hy
    go_wp2_with fail
    refine (unhide CCP).mono ?_
    rintro e w5 ⟨rfl, hto⟩
    obtain ⟨B', O5, _, h5⟩ := (unhide H4).imp (unhide HP) hto
    have CK := hide (kept_any h5 y (by have := (unhide OK).words; show s.words.length ≤ _; omega))
    clear g0 hto h5
    go_wp2_with fail
    refine (unhide CK).mono ?_
    rintro e w6 ⟨rfl, v6, O6, _, h6⟩
    have hp6 : (LSt.keepW (s.setP i { p with B := B', mi := p.mr, c := p.c }) v6 y).hs[i]? = some { p with B := B', mi := p.mr, c := p.c } := setP_at (unhide HP)
    have h6' : LawIs H N0 w0 w6 O6 (LSt.keepW (s.setP i { p with B := B', mi := p.mr, c := p.c }) v6 y) := h6
    obtain ⟨_, gg⟩ := (h6'.pair hp6).cells
    have hr6 : RefIs w6 p.R p.mr := (h6'.pair hp6).2.2.1
    have HN : Hid (Next H N0 w0 s t w6) := next_keep (i := i) h6' ((unhide OK).same (unhide HP) hsync.symm rfl) (unhide OK).words
    have fo := hr6.cells.2.2.2.1
    obtain ⟨g, cap, hv, hg, hc1, hc2, o0, o1, o2⟩ := hr6.ob j hj
    rw [hv] at fo
    rw [unhide HY] at o0
    unfold maxLen at hc2
    have hol := (unhide BD).objs
    dsimp only at gg
    clear h6 h6' hr6 hv hp6 o1 o2
    go_wp2
    go_ret
    exact ⟨rfl, unhide HN⟩

set_option maxRecDepth 10000 in
set_option maxHeartbeats 3200000 in
theorem asked_load {H : HeapI} {N0 : Nat} {w0 w : World} {O : Nat → Nat × Nat} {s : LSt} {i t : Nat} {p : PairS} (h : LawIs H N0 w0 w O s) (ok : Ok t s) (ht : t ≤ 2000000) (hp : s.hs[i]? = some p) (a b c : Int) (hb1 : -9223372036854775808 ≤ b) (hb2 : b ≤ 9223372036854775807) :
    Calls Tryd.prog 52 #[.pointer (some ⟨s.wB, 0, none⟩), .pointer (some ⟨p.pb, 0, none⟩), .agg #[.int .i64 6, .int .i64 a, .int .i64 b, .int .i64 c]] w fun e w' => e = .returned (.bool true) ∧ Next H N0 w0 s t w' := by
  obtain ⟨W, O1, eW, h1, bx, zW⟩ := h.boxed 6 a b c
  have EW := hide eW
  have H1 := hide h1
  have BX := hide bx
  have OK := hide ok
  have HP := hide hp
  have hsync := ok.sync i p hp
  have hrun := ok.runs i p hp
  have hg : Geo p.mr := by rw [← hsync]; exact H.geo (h.pair hp).2.1.1
  have BD := hide (bd_of hg hrun ht)
  have CW := hide (word_any h1 6 a b c hb1 hb2 (by have := ok.words; omega))
  obtain ⟨x, hx⟩ : ∃ x, wordOf s.words b c = x := ⟨_, rfl⟩
  rw [hx] at CW
  have HX := hide hx
  clear hx h h1 bx ok hp eW zW
  go_enter Tryd.func52, Tryd.ntmps52
  go_wp2_with fail
  rw [show w.alloc (.cells #[.int .i64 6, .int .i64 a, .int .i64 b, .int .i64 c] 52) = W from unhide EW]
  refine (unhide CW).mono ?_
  rintro e w2 ⟨rfl, hb⟩
  have H2 := hide ((unhide H1).quiet hb)
  have BX2 := hide (Loc.of_below (O := O1) (8, 8) hb 8 _ _ (unhide BX))
  obtain ⟨_, f1⟩ := ((unhide H2).pair (unhide HP)).cells
  have CWd := hide (word_gen p.R p.mr x w2 ((unhide H2).pair (unhide HP)).2.2.1 (unhide BD))
  clear hb
  go_wp2_with fail
  refine (unhide CWd).mono ?_
  rintro e w3 ⟨wi, wk, wf, rfl, wt, hb3⟩
  have WT := hide wt
  have H3 := hide ((unhide H2).quiet hb3)
  have BX3 := hide (Loc.of_below (8, 8) hb3 8 _ _ (unhide BX2))
  obtain ⟨_, f1'⟩ := ((unhide H3).pair (unhide HP)).cells
  have CF := hide (find_any p.R p.mr x w3 ((unhide H3).pair (unhide HP)).2.2.1 (unhide BD))
  clear hb3 wt f1
  go_wp2_with fail
  refine (unhide CF).mono ?_
  rintro e w4 ⟨rfl, hb4⟩
  have H4 := hide ((unhide H3).quiet hb4)
  have BX4 := hide (Loc.of_below (8, 8) hb4 8 _ _ (unhide BX3))
  obtain ⟨k0, _, _, _⟩ := opObj_cells (unhide BX4)
  obtain ⟨g0, g1⟩ := ((unhide H4).pair (unhide HP)).cells
  clear hb4 f1'
  rcases unhide WT with ⟨x8, rfl, rfl, rfl⟩ | ⟨x8, hf, rfl, rfl, rfl⟩ | ⟨x8, rfl, j, hf, rfl, hj, rfl, j1, j2⟩
  · clear WT
    have CP := H.load_err x (unhide H4).glob ((unhide H4).pair (unhide HP)).2.1.1 (by rw [hsync]; exact .inl x8)
    rw [if_pos x8] at CP
    have CCP := hide CP
    clear g1 CP
    go_wp2_with fail
    refine (unhide CCP).mono ?_
    rintro e w5 ⟨rfl, hto⟩
    obtain ⟨B', O5, _, h5⟩ := (unhide H4).imp (unhide HP) hto
    have CK := hide (kept_any h5 0 (by have := (unhide OK).words; show s.words.length ≤ _; omega))
    clear g0 hto h5
    go_wp2_with fail
    refine (unhide CK).mono ?_
    rintro e w6 ⟨rfl, v6, O6, _, h6⟩
    have HN : Hid (Next H N0 w0 s t w6) := next_keep (i := i) (p' := { p with B := B', mi := p.mi, c := p.c }) h6 ((unhide OK).same (unhide HP) rfl rfl) (unhide OK).words
    clear h6
    go_wp2
    go_ret
    exact ⟨rfl, unhide HN⟩
  · clear WT
    have CP := H.load_err x (unhide H4).glob ((unhide H4).pair (unhide HP)).2.1.1 (by rw [hsync]; exact .inr hf)
    rw [if_neg (by omega)] at CP
    have CCP := hide CP
    clear g1 CP
    go_wp2_with fail
    refine (unhide CCP).mono ?_
    rintro e w5 ⟨rfl, hto⟩
    obtain ⟨B', O5, _, h5⟩ := (unhide H4).imp (unhide HP) hto
    have CK := hide (kept_any h5 0 (by have := (unhide OK).words; show s.words.length ≤ _; omega))
    clear g0 hto h5
    go_wp2_with fail
    refine (unhide CK).mono ?_
    rintro e w6 ⟨rfl, v6, O6, _, h6⟩
    have HN : Hid (Next H N0 w0 s t w6) := next_keep (i := i) (p' := { p with B := B', mi := p.mi, c := p.c }) h6 ((unhide OK).same (unhide HP) rfl rfl) (unhide OK).words
    clear h6
    go_wp2
    go_ret
    exact ⟨rfl, unhide HN⟩
  · clear WT
    obtain ⟨kk, hkk⟩ : ∃ kk : Nat, (x - (p.mr.objs[j]).pos) / 8 = kk := ⟨((x - (p.mr.objs[j]).pos) / 8).toNat, by omega⟩
    have hkl : kk < (p.mr.objs[j]).ws.length := by omega
    have hkl' : kk < (p.mi.objs[j]'(by rw [hsync]; exact hj)).ws.length := by simp only [hsync]; exact hkl
    have CP := H.load_ok x j kk (by rw [hsync]; exact hj) hkl' (unhide H4).glob ((unhide H4).pair (unhide HP)).2.1.1 x8 (by rw [hsync]; exact hf) (by simp only [hsync]; exact hkk)
    simp only [hsync] at CP
    obtain ⟨y, hy⟩ : ∃ y, (p.mr.objs[j]).ws[kk] = y := ⟨_, rfl⟩
    rw [hy] at CP
    have CCP := hide CP
    have HY := hide hy
    have hwl := ((unhide BD).pos j hj).2.2
    rw [hkk, hf]
    clear hf g1 CP hy hkl' hkk x8
    go_wp2_with fail
    refine (unhide CCP).mono ?_
    rintro e w5 ⟨rfl, hto⟩
    obtain ⟨B', O5, _, h5⟩ := (unhide H4).imp (unhide HP) hto
    have CK := hide (kept_any h5 y (by have := (unhide OK).words; show s.words.length ≤ _; omega))
    clear g0 hto h5
    go_wp2_with fail
    refine (unhide CK).mono ?_
    rintro e w6 ⟨rfl, v6, O6, _, h6⟩
    have hp6 : (LSt.keepW (s.setP i { p with B := B', mi := p.mr, c := p.c }) v6 y).hs[i]? = some { p with B := B', mi := p.mr, c := p.c } := setP_at (unhide HP)
    have h6' : LawIs H N0 w0 w6 O6 (LSt.keepW (s.setP i { p with B := B', mi := p.mr, c := p.c }) v6 y) := h6
    obtain ⟨_, gg⟩ := (h6'.pair hp6).cells
    have hr6 : RefIs w6 p.R p.mr := (h6'.pair hp6).2.2.1
    have HN : Hid (Next H N0 w0 s t w6) := next_keep (i := i) h6' ((unhide OK).same (unhide HP) hsync.symm rfl) (unhide OK).words
    have fo := hr6.cells.2.2.2.1
    obtain ⟨g, cap, hv, hg, hc1, hc2, o0, o1, o2⟩ := hr6.ob j hj
    have ow := hr6.word j kk hj hkl
    rw [hv] at fo
    rw [unhide HY] at ow
    unfold maxLen at hc2
    have hol := (unhide BD).objs
    dsimp only at gg
    clear h6 h6' hr6 hv hp6 o0 o1 HY
    generalize (p.mr.objs[j]).ws.length = len at *
    go_wp2
    go_ret
    exact ⟨rfl, unhide HN⟩

end Go.Proofs.YtgegkcjllliifabDoor
