/-
  The walk of the law's owner: a cell of a list.
-/
import Derived.Test.YtgegkcjllliifabDoorLawLooks
import Derived.Deep.RegionHeld2
namespace Go.Proofs.YtgegkcjllliifabDoor
open Go.RowKit

theorem Ok.more {t : Nat} {s : LSt} (o : Ok t s) : Ok (t + 1) s := ⟨o.sync, fun i p hp => by have := o.runs i p hp; omega, Nat.le_succ_of_le o.words, Nat.le_succ_of_le o.hs, Nat.le_succ_of_le o.ls, o.value, o.ll⟩

set_option maxRecDepth 10000 in
set_option maxHeartbeats 3200000 in
theorem owner_cell {H : HeapI} {N0 : Nat} {w0 w : World} {O : Nat → Nat × Nat} {s : LSt} {t : Nat} (h : LawIs H N0 w0 w O s) (ok : Ok t s) (ht : t ≤ 2000000) (a b c : Int) (ha1 : -9223372036854775808 ≤ a) (ha2 : a ≤ 9223372036854775807) (hb1 : -9223372036854775808 ≤ b) (hb2 : b ≤ 9223372036854775807) (hll : ∀ j (hj : j < s.ls.length), (s.ls[j]).l.length ≤ 1000000) :
    Calls Tryd.prog 48 #[.pointer (some ⟨s.wB, 0, none⟩), .agg #[.int .i64 18, .int .i64 a, .int .i64 b, .int .i64 c]] w fun e w' => e = .returned (.bool true) ∧ Next H N0 w0 s t w' := by
  obtain ⟨W, O1, eW, h1, bx, zW⟩ := h.boxed 18 a b c
  have EW := hide eW
  have H1 := hide h1
  have OK := hide ok
  have BX := hide bx
  have hls := ok.ls
  have hwl : s.wB < w.heap.size := heap_lt h.st.1
  obtain ⟨_, _, _, f3, f4, _, _⟩ := h.cells
  by_cases c0 : s.ls = []
  · obtain ⟨al, cl, hvl, _, _⟩ := ownsRow_shape h.rl.1
    rw [hvl, c0] at f3
    have HF : Hid (Next H N0 w0 s t W) := hide ⟨s, O1, rfl, h1, ok.more⟩
    have E2 : Hid (w.alloc (.cells #[.int .i64 18, .int .i64 a, .int .i64 b, .int .i64 c] 52) = W) := eW
    clear h h1 bx ok eW zW hvl c0 f4 hls
    go_enter Tryd.func48, Tryd.ntmps48
    go_wp2
    rw [unhide E2]
    go_ret
    exact ⟨rfl, unhide HF⟩
  · have hpos : 1 ≤ s.ls.length := by
      rcases Nat.eq_zero_or_pos s.ls.length with e | e
      · exact absurd (List.eq_nil_of_length_eq_zero e) c0
      · exact e
    have hp := pickN_lt a s.ls.length hpos
    have C : Hid (∀ w1, Calls Tryd.prog 50 #[.int .i64 a, .int .i64 s.ls.length] w1 fun e w' => e = .returned (.int .i64 (pickN a s.ls.length)) ∧ w' = w1) := fun w1 => lawPick_any a s.ls.length w1 ha1 ha2 hpos (by omega)
    generalize pickN a s.ls.length = j at *
    have E2 : Hid (w.alloc (.cells #[.int .i64 18, .int .i64 a, .int .i64 b, .int .i64 c] 52) = W) := eW
    obtain ⟨g1, c1, g2, c2, e1, e2, m1, m2, n1, n2, o1, o2⟩ := h1.listAt j hp
    rw [e1] at f3
    unfold maxLen at m1 m2
    obtain ⟨_, _, _, F3, F4, FZ, _⟩ := h1.cells
    rw [e1] at F3
    rw [e2] at F4
    obtain ⟨k0, ka, kb, kc⟩ := opObj_cells bx
    have hbxO := bx.2
    clear h bx ok eW zW c0 f4 k0
    by_cases cl : (s.ls[j]).l = []
    · obtain ⟨r1, _⟩ := h1.lss j hp
      obtain ⟨av, dv, hv, _, _⟩ := ownsRow_shape r1.1
      rw [hv, cl] at o1
      have HF : Hid (∀ q, Next H N0 w0 s t (W.drewN q)) := hide fun q => ⟨s, _, rfl, h1.quiet (belowDrewN' _ W q), (unhide OK).more⟩
      clear h1 r1 hv cl e1 e2
      go_enter Tryd.func48, Tryd.ntmps48
      go_wp2_with fail
      rw [unhide E2]
      go_quiet ((go_at_call 50; exact Calls.quiet_of_same (unhide C _)))
      go_wp2
      go_ret
      exact ⟨rfl, unhide HF _⟩
    · have hpos2 : 1 ≤ (s.ls[j]).l.length := by
        rcases Nat.eq_zero_or_pos (s.ls[j]).l.length with e | e
        · exact absurd (List.eq_nil_of_length_eq_zero e) cl
        · exact e
      have hl2 := hll j hp
      have hp2 := pickN_lt b (s.ls[j]).l.length hpos2
      have C2 : Hid (∀ w1, Calls Tryd.prog 50 #[.int .i64 b, .int .i64 (s.ls[j]).l.length] w1 fun e w' => e = .returned (.int .i64 (pickN b (s.ls[j]).l.length)) ∧ w' = w1) := fun w1 => lawPick_any b (s.ls[j]).l.length w1 hb1 hb2 hpos2 (by omega)
      generalize pickN b (s.ls[j]).l.length = x at *
      have key : ∀ q, Hid (∃ O', LawIs H N0 w0 (W.drewN q) O' s) := fun q => hide ⟨_, h1.quiet (belowDrewN' _ W q)⟩
      have KEY := hide key
      obtain ⟨b1, d1, b2, d2, v1, v2, x1, x2, x3, x4, x5, x6, x7, x8, x9, _, _, _, _, xl, xk, _⟩ := h1.setCellL j x hp hp2 c
      have nb1 : w.heap.size ≠ b1 := fun e => by
        have := (h1.lss j hp).1.2 b1 (by rw [v1]; rfl)
        rw [← e, hbxO] at this
        exact lab_ne (a := 8) (b := 8) (c := 4) (d := j) (by omega) this
      have ng1 : g1 ≠ b1 := fun e => xl g1 (by rw [e1]; rfl) e.symm
      have ng2 : g2 ≠ b1 := fun e => xk g2 (by rw [e2]; rfl) e.symm
      have nw1 : s.wB ≠ b1 := fun e => x6 e.symm
      have nb1' : b1 ≠ w.heap.size := fun e => nb1 e.symm
      have ng1' : b1 ≠ g1 := fun e => ng1 e.symm
      have ng2' : b1 ≠ g2 := fun e => ng2 e.symm
      have lb2 := (h1.lss j hp).2.2 b2 (by rw [v2]; rfl)
      have nb2' : b2 ≠ w.heap.size := fun e => by
        rw [e, hbxO] at lb2
        exact lab_ne (a := 8) (b := 8) (c := 5) (d := j) (by omega) lb2
      have ng22 : b2 ≠ g2 := fun e => by
        have := h1.rk.2 g2 (by rw [e2]; rfl)
        rw [← e, lb2] at this
        exact lab_ne (a := 5) (b := j) (c := 0) (d := 4) (by omega) this
      clear xl xk lb2
      rw [v1] at o1
      rw [v2] at o2
      have V1 := hide v1
      have V2 := hide v2
      obtain ⟨n, hn⟩ : ∃ n, (s.ls[j]).l.length = n := ⟨_, rfl⟩
      have HP2 := hide hp2
      rw [hn] at o1 o2 C2 hpos2 hl2 hp2 x3 x4
      clear h1 cl e1 e2 v1 v2 key hn
      unfold maxLen at x1 x2
      go_enter Tryd.func48, Tryd.ntmps48
      go_wp2_with fail
      rw [unhide E2]
      go_quiet ((go_at_call 50; exact Calls.quiet_of_same (unhide C _)))
      obtain ⟨W1, E1, O3, h3, k1⟩ : ∃ W1, W.drewN nq = W1 ∧ ∃ O3, LawIs H N0 w0 W1 O3 s ∧ ∀ a, W1.cell? a = W.cell? a := by
        obtain ⟨O3, h3⟩ := unhide (unhide KEY nq)
        exact ⟨_, rfl, O3, h3, fun _ => rfl⟩
      rw [E1]
      rw [← k1] at F3 F4 o1 o2 ka kb kc
      have H3 := hide h3
      clear E1 h3 k1 KEY C E2 f3
      go_wp2_with fail
      go_quiet ((go_at_call 50; exact Calls.quiet_of_same (unhide C2 _)))
      obtain ⟨W2, E2, O4, h4, k2⟩ : ∃ W2, W1.drewN nq = W2 ∧ ∃ O3, LawIs H N0 w0 W2 O3 s ∧ ∀ a, W2.cell? a = W1.cell? a := ⟨_, rfl, _, (unhide H3).quiet (belowDrewN' _ W1 nq), fun _ => rfl⟩
      rw [E2]
      rw [← k2] at F3 F4 o1 o2 ka kb kc
      obtain ⟨b1', d1', b2', d2', v1, v2, _, _, _, _, y5, y6, y7, y8, y9, ⟨z1, ce1⟩, ⟨z2, ce2⟩, fr1, fr2, hb1', hb2', O5, hL⟩ := h4.setCellL j x hp (unhide HP2) c
      have w1 := (unhide V1).symm.trans v1
      have w2 := (unhide V2).symm.trans v2
      simp only [Value.slice.injEq, Option.some.injEq, Addr.mk.injEq, and_true, true_and] at w1 w2
      obtain ⟨rfl, rfl⟩ := w1
      obtain ⟨rfl, rfl⟩ := w2
      have HF : Hid (∀ X, Below ((W2.setCell ⟨b1, x, none⟩ (.int .i64 c)).setCell ⟨b2, x, none⟩ (.int .i64 c)).heap.size ((W2.setCell ⟨b1, x, none⟩ (.int .i64 c)).setCell ⟨b2, x, none⟩ (.int .i64 c)) X → Next H N0 w0 s t X) := hide (fun X hX => by
        refine ⟨_, _, ?_, hL.quiet hX, ?_⟩
        · rfl
        · have o := (unhide OK).more
          exact ⟨o.sync, o.runs, o.words, o.hs, by simpa using o.ls, o.value, fun e he => by
            have he' : e ∈ s.ls.set j { s.ls[j] with l := (s.ls[j]).l.set x c } := he
            rcases List.mem_or_eq_of_mem_set he' with q | q
            · exact o.ll e q
            · rw [q]
              show ((s.ls[j]).l.set x c).length ≤ 3000
              rw [List.length_set]
              exact o.ll _ (List.getElem_mem hp)⟩)
      have bl1 : ∀ k, s.vl.ownBlock = some k → b1 ≠ k := hb1'
      have bl2 : ∀ k, s.vk.ownBlock = some k → b1 ≠ k := hb2'
      clear h4 k2 C2 H3 v1 v2 hL
      go_wp2_with fail
      go_region_held2 (fun w' => w'.cell? ⟨s.wB, 3, none⟩ = some (.slice (some ⟨g1, 0, none⟩) s.ls.length c1) ∧ w'.cell? ⟨g1, j, none⟩ = some (.slice (some ⟨b1, 0, none⟩) n d1) ∧ w'.cell? ⟨w.heap.size, 3, none⟩ = some (.int .i64 c)) (go_keep) (fail)
      clear F3 o1
      obtain ⟨W3, E3⟩ : ∃ W3, (W2.setCell ⟨b1, x, none⟩ (.int .i64 c)).drew = W3 := ⟨_, rfl⟩
      have far : ∀ a : Addr, b1 ≠ a.block → W3.cell? a = W2.cell? a := fun a ha => by rw [← E3]; exact World.cell?_setCell_far W2 ⟨b1, x, none⟩ a _ ha
      have farz : W3.frozen? ⟨b2, x, none⟩ = false := by
        rw [← E3]
        refine (World.frozen?_of_block (w := W2) (a := ⟨b2, x, none⟩) ?_).trans fr2
        exact heap_setCell_other W2 ⟨b1, x, none⟩ b2 _ (fun e => y5 e.symm)
      rw [← far _ x6] at F4
      rw [← far _ ng2'] at o2
      rw [← far _ nb1'] at kc
      rw [← far _ y5] at ce2
      have HF3 : Hid (∀ X, Below (W3.setCell ⟨b2, x, none⟩ (.int .i64 c)).heap.size (W3.setCell ⟨b2, x, none⟩ (.int .i64 c)) X → Next H N0 w0 s t X) := hide (fun X hX => unhide HF X (by
        rw [← E3] at hX
        exact ⟨hX.os, hX.tape, hX.output, hX.size, hX.block⟩))
      have HE3 := hide E3
      go_wp2_with fail
      rw [unhide HE3]
      clear far E3 HE3 fr1 fr2 ce1 HF
      have y7' : b2 ≠ s.wB := y7
      go_region_held2 (fun w' => w'.cell? ⟨s.wB, 4, none⟩ = some (.slice (some ⟨g2, 0, none⟩) s.ls.length c2) ∧ w'.cell? ⟨g2, j, none⟩ = some (.slice (some ⟨b2, 0, none⟩) n d2) ∧ w'.cell? ⟨w.heap.size, 3, none⟩ = some (.int .i64 c)) (go_keep) (fail)
      go_wp2
      go_ret
      exact ⟨rfl, unhide HF3 _ ⟨rfl, rfl, rfl, Nat.le_refl _, fun _ _ => rfl⟩⟩
end Go.Proofs.YtgegkcjllliifabDoor
