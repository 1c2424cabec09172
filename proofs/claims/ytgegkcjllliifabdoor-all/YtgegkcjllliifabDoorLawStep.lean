/-
  The walk of the law's step.
-/
import Derived.Test.YtgegkcjllliifabDoorLawNew
import Derived.Test.YtgegkcjllliifabDoorLawSet
namespace Go.Proofs.YtgegkcjllliifabDoor
open Go.RowKit

theorem laid_any {H : HeapI} {N0 : Nat} {w0 w : World} {O : Nat → Nat × Nat} {s : LSt} {i t : Nat} {p : PairS} (h : LawIs H N0 w0 w O s) (ok : Ok t s) (ht : t ≤ 1900000) (hp : s.hs[i]? = some p) (n : Int) (at' : Bool) :
    Calls Tryd.prog 51 #[.pointer (some ⟨s.wB, 0, none⟩), .pointer (some ⟨p.pb, 0, none⟩), .int .i64 n, .bool at'] w fun e w' => e = .returned (.bool true) ∧ Next H N0 w0 s t w' := by
  by_cases c : n < 1 ∨ (p.mr.pages : Int) * 32 < n
  · exact laid_size h ok (by omega) hp n at' c
  · obtain ⟨m, rfl⟩ := Int.eq_ofNat_of_zero_le (show 0 ≤ n by omega)
    exact laid_in h ok (by omega) hp m at' (by omega) (by omega)
theorem asked_any {H : HeapI} {N0 : Nat} {w0 w : World} {O : Nat → Nat × Nat} {s : LSt} {i t : Nat} {p : PairS} (h : LawIs H N0 w0 w O s) (ok : Ok t s) (ht : t ≤ 1900000) (hp : s.hs[i]? = some p) (k a b c : Int) (hk : k = 3 ∨ k = 4 ∨ k = 5 ∨ k = 6 ∨ k = 7) (hb1 : -9223372036854775808 ≤ b) (hb2 : b ≤ 9223372036854775807) :
    Calls Tryd.prog 52 #[.pointer (some ⟨s.wB, 0, none⟩), .pointer (some ⟨p.pb, 0, none⟩), .agg #[.int .i64 k, .int .i64 a, .int .i64 b, .int .i64 c]] w fun e w' => e = .returned (.bool true) ∧ Next H N0 w0 s t w' := by
  have ht' : t ≤ 2000000 := by omega
  rcases hk with rfl | rfl | rfl | rfl | rfl
  · exact asked_free h ok ht' hp a b c hb1 hb2
  · exact asked_base h ok ht' hp a b c hb1 hb2
  · exact asked_size h ok ht' hp a b c hb1 hb2
  · exact asked_load h ok ht' hp a b c hb1 hb2
  · exact asked_store h ok ht' hp a b c hb1 hb2
theorem rooted_any {H : HeapI} {N0 : Nat} {w0 w : World} {O : Nat → Nat × Nat} {s : LSt} {i t : Nat} {p : PairS} (h : LawIs H N0 w0 w O s) (ok : Ok t s) (ht : t ≤ 1900000) (hp : s.hs[i]? = some p) (k a b c : Int) (hk : k = 9 ∨ k = 10 ∨ k = 11) (hb1 : -9223372036854775808 ≤ b) (hb2 : b ≤ 9223372036854775807) :
    Calls Tryd.prog 53 #[.pointer (some ⟨s.wB, 0, none⟩), .pointer (some ⟨p.pb, 0, none⟩), .agg #[.int .i64 k, .int .i64 a, .int .i64 b, .int .i64 c]] w fun e w' => e = .returned (.bool true) ∧ Next H N0 w0 s t w' := by
  have ht' : t ≤ 2000000 := by omega
  rcases hk with rfl | rfl | rfl
  · exact (rooted_push h ok ht' hp a b c hb1 hb2).mono fun e w' hh => ⟨hh.1, hh.2.next⟩
  · exact (rooted_pop h ok ht' hp a b c).mono fun e w' hh => ⟨hh.1, hh.2.next⟩
  · exact (rooted_set h ok ht' hp a b c).mono fun e w' hh => ⟨hh.1, hh.2.next⟩
theorem told_any {H : HeapI} {N0 : Nat} {w0 w : World} {O : Nat → Nat × Nat} {s : LSt} {i t : Nat} {p : PairS} (h : LawIs H N0 w0 w O s) (ok : Ok t s) (ht : t ≤ 1900000) (hp : s.hs[i]? = some p) (k a b c : Int) (hk : k = 12 ∨ k = 13 ∨ k = 14 ∨ k = 15 ∨ k = 16 ∨ k = 17) (hb2 : b ≤ 9223372036854775807) :
    Calls Tryd.prog 54 #[.pointer (some ⟨s.wB, 0, none⟩), .pointer (some ⟨p.pb, 0, none⟩), .agg #[.int .i64 k, .int .i64 a, .int .i64 b, .int .i64 c]] w fun e w' => e = .returned (.bool true) ∧ Next H N0 w0 s t w' := by
  have ht' : t ≤ 2000000 := by omega
  rcases hk with rfl | rfl | rfl | rfl | rfl | rfl
  · exact (told_collect h ok ht hp a b c).mono fun e w' hh => ⟨hh.1, hh.2.next⟩
  · exact (told_sweep h ok ht' hp a b c hb2).mono fun e w' hh => ⟨hh.1, hh.2.next⟩
  · exact told_walk h ok ht hp a b c
  · exact told_black h ok ht hp a b c
  · exact (told_counts h ok ht' hp a b c).mono fun e w' hh => ⟨hh.1, hh.2.next⟩
  · exact (told_all h ok ht' hp a b c).mono fun e w' hh => ⟨hh.1, hh.2.next⟩

/-- A step of the law's own. -/
theorem owner_any {H : HeapI} {N0 : Nat} {w0 w : World} {O : Nat → Nat × Nat} {s : LSt} {t : Nat} (h : LawIs H N0 w0 w O s) (ok : Ok t s) (ht : t ≤ 1900000) (k a b c : Int) (hk : k = 8 ∨ k = 18) (ha1 : -9223372036854775808 ≤ a) (ha2 : a ≤ 9223372036854775807) (hb1 : -9223372036854775808 ≤ b) (hb2 : b ≤ 9223372036854775807) :
    Calls Tryd.prog 48 #[.pointer (some ⟨s.wB, 0, none⟩), .agg #[.int .i64 k, .int .i64 a, .int .i64 b, .int .i64 c]] w fun e w' => e = .returned (.bool true) ∧ Next H N0 w0 s t w' := by
  rcases hk with rfl | rfl
  · exact owner_value h ok (by omega) a b c hb1 hb2
  · exact owner_cell h ok (by omega) a b c ha1 ha2 hb1 hb2 fun j hj => by have := ok.ll _ (List.getElem_mem hj); omega

theorem Next.of_box {H : HeapI} {N0 : Nat} {w0 : World} {s : LSt} {t : Nat} {w : World} (h : Next H N0 w0 s t w) : Next H N0 w0 s t w := h

set_option maxRecDepth 10000 in
set_option maxHeartbeats 3200000 in
theorem step_own {H : HeapI} {N0 : Nat} {w0 w : World} {O : Nat → Nat × Nat} {s : LSt} {t : Nat} (h : LawIs H N0 w0 w O s) (ok : Ok t s) (ht : t ≤ 1900000) (k a b c : Int) (hk : k = 8 ∨ k = 18) (ha1 : -9223372036854775808 ≤ a) (ha2 : a ≤ 9223372036854775807) (hb1 : -9223372036854775808 ≤ b) (hb2 : b ≤ 9223372036854775807) :
    Calls Tryd.prog 31 #[.pointer (some ⟨s.wB, 0, none⟩), .agg #[.int .i64 k, .int .i64 a, .int .i64 b, .int .i64 c]] w fun e w' => e = .returned (.bool true) ∧ Next H N0 w0 s t w' := by
  obtain ⟨W, O1, eW, h1, bx, zW⟩ := h.boxed k a b c
  have E1 : Hid (w.alloc (.cells #[.int .i64 k, .int .i64 a, .int .i64 b, .int .i64 c] 52) = W) := eW
  have CO := hide (owner_any h1 ok ht k a b c hk ha1 ha2 hb1 hb2)
  clear h h1 bx ok eW zW hk
  go_enter Tryd.func31, Tryd.ntmps31
  go_wp2_with fail
  rw [unhide E1]
  refine (unhide CO).mono ?_
  rintro e w2 ⟨rfl, hn⟩
  have HN := hide hn
  clear hn
  go_wp2
  go_ret
  exact ⟨rfl, unhide HN⟩

set_option maxRecDepth 10000 in
set_option maxHeartbeats 3200000 in
theorem step_empty {H : HeapI} {N0 : Nat} {w0 w : World} {O : Nat → Nat × Nat} {s : LSt} {t : Nat} (h : LawIs H N0 w0 w O s) (ok : Ok t s) (k a b c : Int) (h1k : k ≠ 1) (h8 : k ≠ 8) (h18 : k ≠ 18) (he : s.hs = []) :
    Calls Tryd.prog 31 #[.pointer (some ⟨s.wB, 0, none⟩), .agg #[.int .i64 k, .int .i64 a, .int .i64 b, .int .i64 c]] w fun e w' => e = .returned (.bool true) ∧ Next H N0 w0 s t w' := by
  obtain ⟨W, O1, eW, h1, bx, zW⟩ := h.boxed k a b c
  have E1 : Hid (w.alloc (.cells #[.int .i64 k, .int .i64 a, .int .i64 b, .int .i64 c] 52) = W) := eW
  have CO := hide (owner_none h1 k a b c h8 h18)
  have H1 := hide h1
  have BX := hide bx
  have OK := hide ok
  have HE := hide he
  have e1 : (k == 1) = false := by simpa using h1k
  clear h h1 bx ok eW zW he h1k h8 h18
  go_enter Tryd.func31, Tryd.ntmps31
  go_wp2_with fail
  rw [unhide E1]
  refine (unhide CO).mono ?_
  rintro e w2 ⟨rfl, d2⟩
  have h2 := (unhide H1).quiet d2
  obtain ⟨k0, ka, kb, kc⟩ := opObj_cells (Loc.of_below (O := O1) (8, 8) d2 _ _ _ (unhide BX))
  obtain ⟨f0, _, _, _, _, _, _⟩ := h2.cells
  obtain ⟨av, cv, hv, _, _⟩ := ownsRow_shape h2.rh.1
  rw [hv, unhide HE] at f0
  have HF : Hid (Next H N0 w0 s t w2) := hide ⟨s, _, rfl, h2, (unhide OK).more⟩
  clear h2 d2 CO hv
  go_wp2
  go_ret
  exact ⟨rfl, unhide HF⟩

set_option maxRecDepth 10000 in
set_option maxHeartbeats 12800000 in
theorem step_heap {H : HeapI} {N0 : Nat} {w0 w : World} {O : Nat → Nat × Nat} {s : LSt} {t : Nat} (h : LawIs H N0 w0 w O s) (ok : Ok t s) (ht : t ≤ 1900000) (k a b c : Int) (h1k : k ≠ 1) (h8 : k ≠ 8) (h18 : k ≠ 18) (ha1 : -9223372036854775808 ≤ a) (ha2 : a ≤ 9223372036854775807) (hb1 : -9223372036854775808 ≤ b) (hb2 : b ≤ 9223372036854775807) (he : s.hs ≠ []) :
    Calls Tryd.prog 31 #[.pointer (some ⟨s.wB, 0, none⟩), .agg #[.int .i64 k, .int .i64 a, .int .i64 b, .int .i64 c]] w fun e w' => e = .returned (.bool true) ∧ Next H N0 w0 s t w' := by
  obtain ⟨W, O1, eW, h1, bx, zW⟩ := h.boxed k a b c
  have E1 : Hid (w.alloc (.cells #[.int .i64 k, .int .i64 a, .int .i64 b, .int .i64 c] 52) = W) := eW
  have CO := hide (owner_none h1 k a b c h8 h18)
  have H1 := hide h1
  have BX := hide bx
  have OK := hide ok
  have hhs := ok.hs
  have hpos : 1 ≤ s.hs.length := by
    rcases Nat.eq_zero_or_pos s.hs.length with e | e
    · exact absurd (List.eq_nil_of_length_eq_zero e) he
    · exact e
  have hpk := pickN_lt a s.hs.length hpos
  have CPK : Hid (∀ w1, Calls Tryd.prog 50 #[.int .i64 a, .int .i64 s.hs.length] w1 fun e w' => e = .returned (.int .i64 (pickN a s.hs.length)) ∧ w' = w1) := fun w1 => lawPick_any a s.hs.length w1 ha1 ha2 hpos (by omega)
  generalize pickN a s.hs.length = i at *
  have e1 : (k == 1) = false := by simpa using h1k
  have hlz : ((s.hs.length : Int) == 0) = false := beq_eq_false_iff_ne.2 (by omega)
  have K8 := hide h8
  clear h h1 bx ok eW zW he h1k h8 h18
  go_enter Tryd.func31, Tryd.ntmps31
  go_wp2_with fail
  rw [unhide E1]
  refine (unhide CO).mono ?_
  rintro e w2 ⟨rfl, d2⟩
  have h2 := (unhide H1).quiet d2
  have bx2 := Loc.of_below (O := O1) (8, 8) d2 _ _ _ (unhide BX)
  obtain ⟨k0, ka, kb, kc⟩ := opObj_cells bx2
  obtain ⟨f0, _, _, _, _, _, _⟩ := h2.cells
  obtain ⟨g, cp, hv, hc1, hc2, hg⟩ := ownsRow_some h2.rh.1 (by omega)
  have rh := h2.rh.1
  rw [hv] at f0 rh
  have c0 := rh.cellAt i (by omega)
  rw [show (s.hs.map fun p => Value.pointer (some ⟨p.pb, 0, none⟩))[i]? = some (.pointer (some ⟨(s.hs[i]).pb, 0, none⟩)) by simp [hpk]] at c0
  have HPi : Hid (s.hs[i]? = some (s.hs[i])) := hide (List.getElem?_eq_getElem hpk)
  unfold maxLen at hc2
  have H2 := hide h2
  have BX2 := hide bx2
  clear h2 d2 CO hv rh bx2 H1 BX E1
  generalize ext W O1 (8, 8) = O2 at *
  generalize s.hs[i] = p at *
  go_wp2_with fail
  go_quiet ((go_at_call 50; exact Calls.quiet_of_same (unhide CPK _)))
  obtain ⟨W3, E3, O3, h3, bx3⟩ : ∃ W3, w2.drewN nq = W3 ∧ ∃ O3, LawIs H N0 w0 W3 O3 s ∧ Blk W3 O3 (8, 8) w.heap.size (opObj k a b c) := ⟨_, rfl, _, (unhide H2).quiet (belowDrewN' _ w2 nq), Loc.of_below (8, 8) (belowDrewN' _ w2 nq) _ _ _ (unhide BX2)⟩
  rw [E3]
  clear E3 k0 ka kb kc f0 c0 H2 BX2 CPK hg hc1 hc2
  obtain ⟨k0, ka, kb, kc⟩ := opObj_cells bx3
  have HF : Hid (Next H N0 w0 s t W3) := hide ⟨s, _, rfl, h3, (unhide OK).more⟩
  have H3 := hide h3
  have CL : Hid (∀ (n : Int) (at' : Bool), Calls Tryd.prog 51 #[.pointer (some ⟨s.wB, 0, none⟩), .pointer (some ⟨p.pb, 0, none⟩), .int .i64 n, .bool at'] W3 fun e w' => e = .returned (.bool true) ∧ Next H N0 w0 s t w') := hide fun n at' => laid_any h3 (unhide OK) ht (unhide HPi) n at'
  have CA : Hid (k = 3 ∨ k = 4 ∨ k = 5 ∨ k = 6 ∨ k = 7 → Calls Tryd.prog 52 #[.pointer (some ⟨s.wB, 0, none⟩), .pointer (some ⟨p.pb, 0, none⟩), .agg #[.int .i64 k, .int .i64 a, .int .i64 b, .int .i64 c]] W3 fun e w' => e = .returned (.bool true) ∧ Next H N0 w0 s t w') := hide fun hk => asked_any h3 (unhide OK) ht (unhide HPi) k a b c hk hb1 hb2
  have CR : Hid (k = 9 ∨ k = 10 ∨ k = 11 → Calls Tryd.prog 53 #[.pointer (some ⟨s.wB, 0, none⟩), .pointer (some ⟨p.pb, 0, none⟩), .agg #[.int .i64 k, .int .i64 a, .int .i64 b, .int .i64 c]] W3 fun e w' => e = .returned (.bool true) ∧ Next H N0 w0 s t w') := hide fun hk => rooted_any h3 (unhide OK) ht (unhide HPi) k a b c hk hb1 hb2
  have CT : Hid (k = 12 ∨ k = 13 ∨ k = 14 ∨ k = 15 ∨ k = 16 ∨ k = 17 → Calls Tryd.prog 54 #[.pointer (some ⟨s.wB, 0, none⟩), .pointer (some ⟨p.pb, 0, none⟩), .agg #[.int .i64 k, .int .i64 a, .int .i64 b, .int .i64 c]] W3 fun e w' => e = .returned (.bool true) ∧ Next H N0 w0 s t w') := hide fun hk => told_any h3 (unhide OK) ht (unhide HPi) k a b c hk hb2
  clear h3 bx3
  by_cases c2 : k = 2
  · have p2 : (k == 2) = true := by simpa using c2
    clear c2
    clear CA CR CT
    go_wp2_with fail
    refine (unhide CL _ _).mono ?_
    rintro e w4 ⟨rfl, hn⟩
    have HN := hide hn
    clear hn CL
    go_wp2
    go_ret
    exact ⟨rfl, unhide HN⟩
  · skip
    by_cases c3 : k = 3
    · have p3 : (k == 3) = true := by simpa using c3
      have n2 : (k == 2) = false := by simpa using c2
      have CC := hide (unhide CA (by rw [c3]; simp))
      clear c2 c3
      clear CL CA CR CT
      go_wp2_with fail
      refine (unhide CC).mono ?_
      rintro e w4 ⟨rfl, hn⟩
      have HN := hide hn
      clear hn CC
      go_wp2
      go_ret
      exact ⟨rfl, unhide HN⟩
    · skip
      by_cases c4 : k = 4
      · have p4 : (k == 4) = true := by simpa using c4
        have n2 : (k == 2) = false := by simpa using c2
        have n3 : (k == 3) = false := by simpa using c3
        have CC := hide (unhide CA (by rw [c4]; simp))
        clear c2 c3 c4
        clear CL CA CR CT
        go_wp2_with fail
        refine (unhide CC).mono ?_
        rintro e w4 ⟨rfl, hn⟩
        have HN := hide hn
        clear hn CC
        go_wp2
        go_ret
        exact ⟨rfl, unhide HN⟩
      · skip
        by_cases c5 : k = 5
        · have p5 : (k == 5) = true := by simpa using c5
          have n2 : (k == 2) = false := by simpa using c2
          have n3 : (k == 3) = false := by simpa using c3
          have n4 : (k == 4) = false := by simpa using c4
          have CC := hide (unhide CA (by rw [c5]; simp))
          clear c2 c3 c4 c5
          clear CL CA CR CT
          go_wp2_with fail
          refine (unhide CC).mono ?_
          rintro e w4 ⟨rfl, hn⟩
          have HN := hide hn
          clear hn CC
          go_wp2
          go_ret
          exact ⟨rfl, unhide HN⟩
        · skip
          by_cases c6 : k = 6
          · have p6 : (k == 6) = true := by simpa using c6
            have n2 : (k == 2) = false := by simpa using c2
            have n3 : (k == 3) = false := by simpa using c3
            have n4 : (k == 4) = false := by simpa using c4
            have n5 : (k == 5) = false := by simpa using c5
            have CC := hide (unhide CA (by rw [c6]; simp))
            clear c2 c3 c4 c5 c6
            clear CL CA CR CT
            go_wp2_with fail
            refine (unhide CC).mono ?_
            rintro e w4 ⟨rfl, hn⟩
            have HN := hide hn
            clear hn CC
            go_wp2
            go_ret
            exact ⟨rfl, unhide HN⟩
          · skip
            by_cases c7 : k = 7
            · have p7 : (k == 7) = true := by simpa using c7
              have n2 : (k == 2) = false := by simpa using c2
              have n3 : (k == 3) = false := by simpa using c3
              have n4 : (k == 4) = false := by simpa using c4
              have n5 : (k == 5) = false := by simpa using c5
              have n6 : (k == 6) = false := by simpa using c6
              have CC := hide (unhide CA (by rw [c7]; simp))
              clear c2 c3 c4 c5 c6 c7
              clear CL CA CR CT
              go_wp2_with fail
              refine (unhide CC).mono ?_
              rintro e w4 ⟨rfl, hn⟩
              have HN := hide hn
              clear hn CC
              go_wp2
              go_ret
              exact ⟨rfl, unhide HN⟩
            · skip
              by_cases c9 : k = 9
              · have p9 : (k == 9) = true := by simpa using c9
                have n2 : (k == 2) = false := by simpa using c2
                have n3 : (k == 3) = false := by simpa using c3
                have n4 : (k == 4) = false := by simpa using c4
                have n5 : (k == 5) = false := by simpa using c5
                have n6 : (k == 6) = false := by simpa using c6
                have n7 : (k == 7) = false := by simpa using c7
                have CC := hide (unhide CR (by rw [c9]; simp))
                clear c2 c3 c4 c5 c6 c7 c9
                clear CL CA CR CT
                go_wp2_with fail
                refine (unhide CC).mono ?_
                rintro e w4 ⟨rfl, hn⟩
                have HN := hide hn
                clear hn CC
                go_wp2
                go_ret
                exact ⟨rfl, unhide HN⟩
              · skip
                by_cases c10 : k = 10
                · have p10 : (k == 10) = true := by simpa using c10
                  have n2 : (k == 2) = false := by simpa using c2
                  have n3 : (k == 3) = false := by simpa using c3
                  have n4 : (k == 4) = false := by simpa using c4
                  have n5 : (k == 5) = false := by simpa using c5
                  have n6 : (k == 6) = false := by simpa using c6
                  have n7 : (k == 7) = false := by simpa using c7
                  have n9 : (k == 9) = false := by simpa using c9
                  have CC := hide (unhide CR (by rw [c10]; simp))
                  clear c2 c3 c4 c5 c6 c7 c9 c10
                  clear CL CA CR CT
                  go_wp2_with fail
                  refine (unhide CC).mono ?_
                  rintro e w4 ⟨rfl, hn⟩
                  have HN := hide hn
                  clear hn CC
                  go_wp2
                  go_ret
                  exact ⟨rfl, unhide HN⟩
                · skip
                  by_cases c11 : k = 11
                  · have p11 : (k == 11) = true := by simpa using c11
                    have n2 : (k == 2) = false := by simpa using c2
                    have n3 : (k == 3) = false := by simpa using c3
                    have n4 : (k == 4) = false := by simpa using c4
                    have n5 : (k == 5) = false := by simpa using c5
                    have n6 : (k == 6) = false := by simpa using c6
                    have n7 : (k == 7) = false := by simpa using c7
                    have n9 : (k == 9) = false := by simpa using c9
                    have n10 : (k == 10) = false := by simpa using c10
                    have CC := hide (unhide CR (by rw [c11]; simp))
                    clear c2 c3 c4 c5 c6 c7 c9 c10 c11
                    clear CL CA CR CT
                    go_wp2_with fail
                    refine (unhide CC).mono ?_
                    rintro e w4 ⟨rfl, hn⟩
                    have HN := hide hn
                    clear hn CC
                    go_wp2
                    go_ret
                    exact ⟨rfl, unhide HN⟩
                  · skip
                    by_cases c12 : k = 12
                    · have p12 : (k == 12) = true := by simpa using c12
                      have n2 : (k == 2) = false := by simpa using c2
                      have n3 : (k == 3) = false := by simpa using c3
                      have n4 : (k == 4) = false := by simpa using c4
                      have n5 : (k == 5) = false := by simpa using c5
                      have n6 : (k == 6) = false := by simpa using c6
                      have n7 : (k == 7) = false := by simpa using c7
                      have n9 : (k == 9) = false := by simpa using c9
                      have n10 : (k == 10) = false := by simpa using c10
                      have n11 : (k == 11) = false := by simpa using c11
                      have CC := hide (unhide CT (by rw [c12]; simp))
                      clear c2 c3 c4 c5 c6 c7 c9 c10 c11 c12
                      clear CL CA CR CT
                      go_wp2_with fail
                      refine (unhide CC).mono ?_
                      rintro e w4 ⟨rfl, hn⟩
                      have HN := hide hn
                      clear hn CC
                      go_wp2
                      go_ret
                      exact ⟨rfl, unhide HN⟩
                    · skip
                      by_cases c13 : k = 13
                      · have p13 : (k == 13) = true := by simpa using c13
                        have n2 : (k == 2) = false := by simpa using c2
                        have n3 : (k == 3) = false := by simpa using c3
                        have n4 : (k == 4) = false := by simpa using c4
                        have n5 : (k == 5) = false := by simpa using c5
                        have n6 : (k == 6) = false := by simpa using c6
                        have n7 : (k == 7) = false := by simpa using c7
                        have n9 : (k == 9) = false := by simpa using c9
                        have n10 : (k == 10) = false := by simpa using c10
                        have n11 : (k == 11) = false := by simpa using c11
                        have n12 : (k == 12) = false := by simpa using c12
                        have CC := hide (unhide CT (by rw [c13]; simp))
                        clear c2 c3 c4 c5 c6 c7 c9 c10 c11 c12 c13
                        clear CL CA CR CT
                        go_wp2_with fail
                        refine (unhide CC).mono ?_
                        rintro e w4 ⟨rfl, hn⟩
                        have HN := hide hn
                        clear hn CC
                        go_wp2
                        go_ret
                        exact ⟨rfl, unhide HN⟩
                      · skip
                        by_cases c14 : k = 14
                        · have p14 : (k == 14) = true := by simpa using c14
                          have n2 : (k == 2) = false := by simpa using c2
                          have n3 : (k == 3) = false := by simpa using c3
                          have n4 : (k == 4) = false := by simpa using c4
                          have n5 : (k == 5) = false := by simpa using c5
                          have n6 : (k == 6) = false := by simpa using c6
                          have n7 : (k == 7) = false := by simpa using c7
                          have n9 : (k == 9) = false := by simpa using c9
                          have n10 : (k == 10) = false := by simpa using c10
                          have n11 : (k == 11) = false := by simpa using c11
                          have n12 : (k == 12) = false := by simpa using c12
                          have n13 : (k == 13) = false := by simpa using c13
                          have CC := hide (unhide CT (by rw [c14]; simp))
                          clear c2 c3 c4 c5 c6 c7 c9 c10 c11 c12 c13 c14
                          clear CL CA CR CT
                          go_wp2_with fail
                          refine (unhide CC).mono ?_
                          rintro e w4 ⟨rfl, hn⟩
                          have HN := hide hn
                          clear hn CC
                          go_wp2
                          go_ret
                          exact ⟨rfl, unhide HN⟩
                        · skip
                          by_cases c15 : k = 15
                          · have p15 : (k == 15) = true := by simpa using c15
                            have n2 : (k == 2) = false := by simpa using c2
                            have n3 : (k == 3) = false := by simpa using c3
                            have n4 : (k == 4) = false := by simpa using c4
                            have n5 : (k == 5) = false := by simpa using c5
                            have n6 : (k == 6) = false := by simpa using c6
                            have n7 : (k == 7) = false := by simpa using c7
                            have n9 : (k == 9) = false := by simpa using c9
                            have n10 : (k == 10) = false := by simpa using c10
                            have n11 : (k == 11) = false := by simpa using c11
                            have n12 : (k == 12) = false := by simpa using c12
                            have n13 : (k == 13) = false := by simpa using c13
                            have n14 : (k == 14) = false := by simpa using c14
                            have CC := hide (unhide CT (by rw [c15]; simp))
                            clear c2 c3 c4 c5 c6 c7 c9 c10 c11 c12 c13 c14 c15
                            clear CL CA CR CT
                            go_wp2_with fail
                            refine (unhide CC).mono ?_
                            rintro e w4 ⟨rfl, hn⟩
                            have HN := hide hn
                            clear hn CC
                            go_wp2
                            go_ret
                            exact ⟨rfl, unhide HN⟩
                          · skip
                            by_cases c16 : k = 16
                            · have p16 : (k == 16) = true := by simpa using c16
                              have n2 : (k == 2) = false := by simpa using c2
                              have n3 : (k == 3) = false := by simpa using c3
                              have n4 : (k == 4) = false := by simpa using c4
                              have n5 : (k == 5) = false := by simpa using c5
                              have n6 : (k == 6) = false := by simpa using c6
                              have n7 : (k == 7) = false := by simpa using c7
                              have n9 : (k == 9) = false := by simpa using c9
                              have n10 : (k == 10) = false := by simpa using c10
                              have n11 : (k == 11) = false := by simpa using c11
                              have n12 : (k == 12) = false := by simpa using c12
                              have n13 : (k == 13) = false := by simpa using c13
                              have n14 : (k == 14) = false := by simpa using c14
                              have n15 : (k == 15) = false := by simpa using c15
                              have CC := hide (unhide CT (by rw [c16]; simp))
                              clear c2 c3 c4 c5 c6 c7 c9 c10 c11 c12 c13 c14 c15 c16
                              clear CL CA CR CT
                              go_wp2_with fail
                              refine (unhide CC).mono ?_
                              rintro e w4 ⟨rfl, hn⟩
                              have HN := hide hn
                              clear hn CC
                              go_wp2
                              go_ret
                              exact ⟨rfl, unhide HN⟩
                            · skip
                              by_cases c17 : k = 17
                              · have p17 : (k == 17) = true := by simpa using c17
                                have n2 : (k == 2) = false := by simpa using c2
                                have n3 : (k == 3) = false := by simpa using c3
                                have n4 : (k == 4) = false := by simpa using c4
                                have n5 : (k == 5) = false := by simpa using c5
                                have n6 : (k == 6) = false := by simpa using c6
                                have n7 : (k == 7) = false := by simpa using c7
                                have n9 : (k == 9) = false := by simpa using c9
                                have n10 : (k == 10) = false := by simpa using c10
                                have n11 : (k == 11) = false := by simpa using c11
                                have n12 : (k == 12) = false := by simpa using c12
                                have n13 : (k == 13) = false := by simpa using c13
                                have n14 : (k == 14) = false := by simpa using c14
                                have n15 : (k == 15) = false := by simpa using c15
                                have n16 : (k == 16) = false := by simpa using c16
                                have CC := hide (unhide CT (by rw [c17]; simp))
                                clear c2 c3 c4 c5 c6 c7 c9 c10 c11 c12 c13 c14 c15 c16 c17
                                clear CL CA CR CT
                                go_wp2_with fail
                                refine (unhide CC).mono ?_
                                rintro e w4 ⟨rfl, hn⟩
                                have HN := hide hn
                                clear hn CC
                                go_wp2
                                go_ret
                                exact ⟨rfl, unhide HN⟩
                              · skip
                                have n2 : (k == 2) = false := by simpa using c2
                                have n3 : (k == 3) = false := by simpa using c3
                                have n4 : (k == 4) = false := by simpa using c4
                                have n5 : (k == 5) = false := by simpa using c5
                                have n6 : (k == 6) = false := by simpa using c6
                                have n7 : (k == 7) = false := by simpa using c7
                                have n9 : (k == 9) = false := by simpa using c9
                                have n10 : (k == 10) = false := by simpa using c10
                                have n11 : (k == 11) = false := by simpa using c11
                                have n12 : (k == 12) = false := by simpa using c12
                                have n13 : (k == 13) = false := by simpa using c13
                                have n14 : (k == 14) = false := by simpa using c14
                                have n15 : (k == 15) = false := by simpa using c15
                                have n16 : (k == 16) = false := by simpa using c16
                                have n17 : (k == 17) = false := by simpa using c17
                                clear CL CA CR CT c2 c3 c4 c5 c6 c7 c9 c10 c11 c12 c13 c14 c15 c16 c17
                                go_wp2
                                go_ret
                                exact ⟨rfl, unhide HF⟩

theorem step_any {H : HeapI} {N0 : Nat} {w0 w : World} {O : Nat → Nat × Nat} {s : LSt} {t : Nat} (h : LawIs H N0 w0 w O s) (ok : Ok t s) (ht : t ≤ 1900000) (k a b c : Int) (ha1 : -9223372036854775808 ≤ a) (ha2 : a ≤ 9223372036854775807) (hb1 : -9223372036854775808 ≤ b) (hb2 : b ≤ 9223372036854775807) :
    Calls Tryd.prog 31 #[.pointer (some ⟨s.wB, 0, none⟩), .agg #[.int .i64 k, .int .i64 a, .int .i64 b, .int .i64 c]] w fun e w' => e = .returned (.bool true) ∧ Next H N0 w0 s t w' := by
  by_cases c1 : k = 1
  · subst c1
    by_cases cn : a < 1 ∨ 48 < a ∨ b < 1 ∨ 16 < b ∨ c < 0 ∨ 4096 < c
    · exact step_new_err h ok a b c cn
    · obtain ⟨a', rfl⟩ := Int.eq_ofNat_of_zero_le (show 0 ≤ a by omega)
      obtain ⟨b', rfl⟩ := Int.eq_ofNat_of_zero_le (show 0 ≤ b by omega)
      obtain ⟨c', rfl⟩ := Int.eq_ofNat_of_zero_le (show 0 ≤ c by omega)
      exact step_new_ok h ok (by omega) a' b' c' (by omega) (by omega) (by omega) (by omega) (by omega)
  · by_cases co : k = 8 ∨ k = 18
    · exact step_own h ok ht k a b c co ha1 ha2 hb1 hb2
    · by_cases ce : s.hs = []
      · exact step_empty h ok k a b c c1 (fun e => co (.inl e)) (fun e => co (.inr e)) ce
      · exact step_heap h ok ht k a b c c1 (fun e => co (.inl e)) (fun e => co (.inr e)) ha1 ha2 hb1 hb2 ce
end Go.Proofs.YtgegkcjllliifabDoor
