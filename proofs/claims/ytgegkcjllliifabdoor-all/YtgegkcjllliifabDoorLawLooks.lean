/-
  The walks of the law's looks and owner.
-/
import Derived.Test.YtgegkcjllliifabDoorLawTell
import Derived.Deep.RegionHeld2
namespace Go.Proofs.YtgegkcjllliifabDoor
open Go.RowKit

/-- Where list j lies in the law's two rows. -/
theorem LawIs.listAt {H : HeapI} {N0 : Nat} {w0 w : World} {O : Nat → Nat × Nat} {s : LSt} (h : LawIs H N0 w0 w O s) (j : Nat) (hj : j < s.ls.length) : ∃ g1 c1 g2 c2, s.vl = .slice (some ⟨g1, 0, none⟩) s.ls.length c1 ∧ s.vk = .slice (some ⟨g2, 0, none⟩) s.ls.length c2 ∧ c1 ≤ maxLen ∧ c2 ≤ maxLen ∧ s.ls.length ≤ c1 ∧ s.ls.length ≤ c2 ∧ w.cell? ⟨g1, j, none⟩ = some (s.ls[j]).v1 ∧ w.cell? ⟨g2, j, none⟩ = some (s.ls[j]).v2 := by
  obtain ⟨g1, c1, e1, h1, h2, _⟩ := ownsRow_some h.rl.1 (by omega)
  obtain ⟨g2, c2, e2, h3, h4, _⟩ := ownsRow_some h.rk.1 (by omega)
  have r1 := h.rl.1
  have r2 := h.rk.1
  rw [e1] at r1
  rw [e2] at r2
  refine ⟨g1, c1, g2, c2, e1, e2, h2, h4, h1, h3, ?_, ?_⟩
  · rw [r1.cellAt j (by omega)]; simp [hj]
  · rw [r2.cellAt j (by omega)]; simp [hj]

set_option maxRecDepth 10000 in
set_option maxHeartbeats 1600000 in
theorem looks_any {H : HeapI} {N0 : Nat} {w0 w : World} {O : Nat → Nat × Nat} {s : LSt} (h : LawIs H N0 w0 w O s) (hl : s.ls.length ≤ 100000000) (hll : ∀ j (hj : j < s.ls.length), (s.ls[j]).l.length ≤ 1000000) :
    Calls Tryd.prog 32 #[.pointer (some ⟨s.wB, 0, none⟩)] w fun e w' => e = .returned (.bool true) ∧ Below w.heap.size w w' := by
  have HH := hide h
  have HLL := hide hll
  obtain ⟨al, cl, hvl, _, _⟩ := ownsRow_shape h.rl.1
  have HVL := hide hvl
  clear h hll hvl
  go_enter Tryd.func32, Tryd.ntmps32
  go_wp2
  go_loopw [3] (fun x wr => ∃ k : Nat, k ≤ s.ls.length ∧ x = .int .i64 k ∧ Hid (Below w.heap.size w wr)) (fun x _ => s.ls.length - (intOf x).toNat)
  case atStart => exact ⟨0, by omega, rfl, hide (Below.refl _ _)⟩
  case round =>
    obtain ⟨k, hk, rfl, BW⟩ := hrel
    have hq := (unhide HH).quiet (unhide BW)
    obtain ⟨_, _, _, f3, f4, _, _⟩ := hq.cells
    by_cases hlt : k < s.ls.length
    · obtain ⟨g1, c1, g2, c2, e1, e2, m1, m2, n1, n2, o1, o2⟩ := hq.listAt k hlt
      rw [e1] at f3
      rw [e2] at f4
      unfold maxLen at m1 m2
      obtain ⟨r1, r2⟩ := hq.lss k hlt
      have bd1 : Below wr.heap.size wr wr.drew := (Below.refl wr.heap.size wr).drew
      have CS := hide (sameInts_true (s.ls[k]).v1 (s.ls[k]).v2 (s.ls[k]).l wr.drew (ownsRow_agree r1.1 fun _ _ => rfl) (ownsRow_agree r2.1 fun _ _ => rfl) (unhide HLL k hlt))
      generalize (s.ls[k]).v1 = v1 at *
      generalize (s.ls[k]).v2 = v2 at *
      clear hq e1 e2 r1 r2 bd1
      go_wp2_with fail
      go_region_held2 (fun w' => w'.cell? ⟨s.wB, 3, none⟩ = some (.slice (some ⟨g1, 0, none⟩) s.ls.length c1) ∧ w'.cell? ⟨s.wB, 4, none⟩ = some (.slice (some ⟨g2, 0, none⟩) s.ls.length c2) ∧ w'.cell? ⟨g1, k, none⟩ = some v1 ∧ w'.cell? ⟨g2, k, none⟩ = some v2) (go_keep) ((go_at_call 55; refine (unhide CS).mono ?_; rintro e w3 ⟨rfl, q, rfl⟩))
      have BW3 : Hid (Below w.heap.size w (wr.drewN (1 + q))) := hide ((unhide BW).trans ⟨rfl, rfl, rfl, Nat.le_refl _, fun _ _ => rfl⟩)
      go_wp2
      go_roundw
      case rel => exact ⟨k + 1, by omega, by go_num, BW3⟩
      case measure => simp [intOf]; omega
    · rw [unhide HVL] at f3
      clear hq
      go_wp2
      go_ret
      exact ⟨rfl, unhide BW⟩

set_option maxHeartbeats 800000 in
theorem owner_none {H : HeapI} {N0 : Nat} {w0 w : World} {O : Nat → Nat × Nat} {s : LSt} (_ : LawIs H N0 w0 w O s) (k a b c : Int) (h8 : k ≠ 8) (h18 : k ≠ 18) :
    Calls Tryd.prog 48 #[.pointer (some ⟨s.wB, 0, none⟩), .agg #[.int .i64 k, .int .i64 a, .int .i64 b, .int .i64 c]] w fun e w' => e = .returned (.bool false) ∧ Below w.heap.size w w' := by
  have e1 : (k == 8) = false := by simpa using h8
  have e2 : (k == 18) = false := by simpa using h18
  clear h8 h18
  go_enter Tryd.func48, Tryd.ntmps48
  go_wp2
  go_ret
  exact ⟨rfl, (Below.refl _ _).alloc (Nat.le_refl _) _⟩

/-- The value is turned. -/
theorem LawIs.setValue {H : HeapI} {N0 : Nat} {w0 w : World} {O : Nat → Nat × Nat} {s : LSt} (h : LawIs H N0 w0 w O s) (x : Int) : ∃ O', LawIs H N0 w0 (w.setCell ⟨s.wB, 2, none⟩ (.int .i64 x)) O' { s with value := x } := by
  have t2 : Touch [s.wB] w (w.setCell ⟨s.wB, 2, none⟩ (.int .i64 x)) := ⟨rfl, rfl, rfl, by simp, fun k _ hk => heap_setCell_other w ⟨s.wB, 2, none⟩ k _ (by simpa using hk)⟩
  have f := Fr.of_touch (O := O) (lab := (0, 0)) t2 (fun k hk => by simp at hk; rw [hk]; exact h.st.2)
  have c := h.core.fr f (.inl rfl)
  have hwl : s.wB < w.heap.size := heap_lt h.st.1
  refine ⟨_, c.below, c.n0, c.old, c.ng, c.glob, ⟨?_, by rw [ext_old w _ _ _ hwl]; exact h.st.2⟩, c.rh, c.rw, h.rl.fr f (lab_ne (by omega)), h.rk.fr f (lab_ne (by omega)), c.ps, c.lss⟩
  rw [heap_setCell_same w s.wB 2 _ _ _ h.st.1]
  rfl
theorem wordOf_bd (words : List Int) (b c : Int) (h1 : -9223372036854775808 ≤ b) (h2 : b ≤ 9223372036854775807) : -9223372036854775808 ≤ wordOf words b c ∧ wordOf words b c ≤ 9223372036854775807 := by
  unfold wordOf
  split
  · exact ⟨h1, h2⟩
  · unfold wrap64; omega

set_option maxHeartbeats 800000 in
theorem owner_value {H : HeapI} {N0 : Nat} {w0 w : World} {O : Nat → Nat × Nat} {s : LSt} {t : Nat} (h : LawIs H N0 w0 w O s) (ok : Ok t s) (ht : t ≤ 2000000) (a b c : Int) (hb1 : -9223372036854775808 ≤ b) (hb2 : b ≤ 9223372036854775807) :
    Calls Tryd.prog 48 #[.pointer (some ⟨s.wB, 0, none⟩), .agg #[.int .i64 8, .int .i64 a, .int .i64 b, .int .i64 c]] w fun e w' => e = .returned (.bool true) ∧ Next H N0 w0 s t w' := by
  obtain ⟨W, O1, eW, h1, bx, zW⟩ := h.boxed 8 a b c
  have EW := hide eW
  have CW := hide (word_any h1 8 a b c hb1 hb2 (by have := ok.words; omega))
  have hbd := wordOf_bd s.words b c hb1 hb2
  have H1 := hide h1
  have OK := hide ok
  generalize wordOf s.words b c = y at *
  clear h h1 bx ok eW zW
  go_enter Tryd.func48, Tryd.ntmps48
  go_wp2_with fail
  rw [show w.alloc (.cells #[.int .i64 8, .int .i64 a, .int .i64 b, .int .i64 c] 52) = W from unhide EW]
  refine (unhide CW).mono ?_
  rintro e w3 ⟨rfl, hb⟩
  have h3 := (unhide H1).quiet hb
  obtain ⟨_, _, f2, _, _, fz, hlt⟩ := h3.cells
  obtain ⟨O4, h4⟩ := h3.setValue y
  have HF : Hid (Next H N0 w0 s t (w3.setCell ⟨s.wB, 2, none⟩ (.int .i64 y))) := hide (by
    refine ⟨_, O4, ?_, h4, ?_⟩
    · rfl
    · have o := unhide OK
      exact ⟨o.sync, fun i p hp => by have := o.runs i p hp; omega, Nat.le_succ_of_le o.words, Nat.le_succ_of_le o.hs, Nat.le_succ_of_le o.ls, hbd, o.ll⟩)
  clear h3 h4 hb
  go_wp2
  go_ret
  exact ⟨rfl, unhide HF⟩

/-- Cell x of list j is turned, in both. -/
theorem LawIs.setCellL {H : HeapI} {N0 : Nat} {w0 w : World} {O : Nat → Nat × Nat} {s : LSt} (h : LawIs H N0 w0 w O s) (j x : Nat) (hj : j < s.ls.length) (hx : x < (s.ls[j]).l.length) (y : Int) :
    ∃ g1 d1 g2 d2, (s.ls[j]).v1 = .slice (some ⟨g1, 0, none⟩) (s.ls[j]).l.length d1 ∧ (s.ls[j]).v2 = .slice (some ⟨g2, 0, none⟩) (s.ls[j]).l.length d2 ∧ d1 ≤ maxLen ∧ d2 ≤ maxLen ∧ (s.ls[j]).l.length ≤ d1 ∧ (s.ls[j]).l.length ≤ d2 ∧ g1 ≠ g2 ∧ g1 ≠ s.wB ∧ g2 ≠ s.wB ∧ g1 < w.heap.size ∧ g2 < w.heap.size ∧ (∃ z, w.cell? ⟨g1, x, none⟩ = some (.int .i64 z)) ∧ (∃ z, w.cell? ⟨g2, x, none⟩ = some (.int .i64 z)) ∧ w.frozen? ⟨g1, x, none⟩ = false ∧ w.frozen? ⟨g2, x, none⟩ = false ∧ (∀ k, s.vl.ownBlock = some k → g1 ≠ k) ∧ (∀ k, s.vk.ownBlock = some k → g1 ≠ k) ∧
      ∃ O', LawIs H N0 w0 ((w.setCell ⟨g1, x, none⟩ (.int .i64 y)).setCell ⟨g2, x, none⟩ (.int .i64 y)) O' { s with ls := s.ls.set j { s.ls[j] with l := (s.ls[j]).l.set x y } } := by
  obtain ⟨r1, r2⟩ := h.lss j hj
  obtain ⟨g1, d1, e1, m1, m2, m3⟩ := ownsRow_some r1.1 (by omega)
  obtain ⟨g2, d2, e2, m4, m5, m6⟩ := ownsRow_some r2.1 (by omega)
  have q1 := r1.1
  have q2 := r2.1
  rw [e1] at q1
  rw [e2] at q2
  have l1 : O g1 = (4, j) := r1.2 g1 (by rw [e1]; rfl)
  have l2 : O g2 = (5, j) := r2.2 g2 (by rw [e2]; rfl)
  have lw := h.st.2
  have hne : g1 ≠ g2 := fun e => by rw [e, l2] at l1; exact lab_ne (a := 5) (b := j) (c := 4) (d := j) (by omega) l1
  have key : ∀ {k : Nat} {lab : Nat × Nat}, O k = lab → lab ≠ (4, j) → g1 ≠ k := fun {k lab} hk hl e => hl (by rw [← hk, ← e]; exact l1)
  have c1 := q1.cellAt x (by omega)
  have c2 := q2.cellAt x (by omega)
  refine ⟨g1, d1, g2, d2, e1, e2, m2, m5, m1, m4, hne, key lw (lab_ne (by omega)), fun e => ?_, m3, m6, ⟨_, by rw [c1]; simp [ints, hx]; rfl⟩, ⟨_, by rw [c2]; simp [ints, hx]; rfl⟩, q1.frozenAt x, q2.frozenAt x, fun k hk => key (h.rl.2 k hk) (lab_ne (by omega)), fun k hk => key (h.rk.2 k hk) (lab_ne (by omega)), ?_⟩
  · rw [e, lw] at l2; exact lab_ne (a := 0) (b := 0) (c := 5) (d := j) (by omega) l2
  have t1 : Touch [g1] w (w.setCell ⟨g1, x, none⟩ (.int .i64 y)) := ⟨rfl, rfl, rfl, by simp, fun k _ hk => heap_setCell_other w ⟨g1, x, none⟩ k _ (by simpa using hk)⟩
  have f1 := Fr.of_touch (O := O) (lab := (4, j)) t1 (fun k hk => by simp at hk; rw [hk]; exact l1)
  have s1 : Row (w.setCell ⟨g1, x, none⟩ (.int .i64 y)) (ext w O (4, j)) (4, j) 3 1 (s.ls[j]).v1 (s.ls[j]).l.length (ints ((s.ls[j]).l.set x y)) := by
    refine ⟨?_, fun k hk => ?_⟩
    · rw [e1, ← ints_set]; exact (q1.stored x _).1
    · rw [f1.own k (r1.1.lt k hk).2]; exact r1.2 k hk
  have s2 := r2.fr f1 (lab_ne (by omega))
  have q2' := s2.1
  rw [e2] at q2'
  have hz1 : (w.setCell ⟨g1, x, none⟩ (.int .i64 y)).heap.size = w.heap.size := by simp
  generalize hw1 : w.setCell ⟨g1, x, none⟩ (.int .i64 y) = w1 at *
  generalize ext w O (4, j) = O1 at *
  have t2 : Touch [g2] w1 (w1.setCell ⟨g2, x, none⟩ (.int .i64 y)) := ⟨rfl, rfl, rfl, by simp, fun k _ hk => heap_setCell_other w1 ⟨g2, x, none⟩ k _ (by simpa using hk)⟩
  have f2 := Fr.of_touch (O := O1) (lab := (5, j)) t2 (fun k hk => by simp at hk; rw [hk]; exact s2.2 g2 (by rw [e2]; rfl))
  have n0 := h.n0
  have h1 : ∀ k, k < N0 → w1.heap[k]? = w.heap[k]? := fun k hk => f1.block k (by omega) (by rw [h.old k hk]; exact lab_ne (by omega))
  have ho1 : ∀ k, k < N0 → O1 k = (9, 9) := fun k hk => by rw [f1.own k (by omega)]; exact h.old k hk
  have h2 : ∀ k, k < N0 → (w1.setCell ⟨g2, x, none⟩ (.int .i64 y)).heap[k]? = w1.heap[k]? := fun k hk => f2.block k (by omega) (by rw [ho1 k hk]; exact lab_ne (by omega))
  have hml : ∀ (g : LS → Value), (∀ e : LS, ∀ l', g { e with l := l' } = g e) → (s.ls.set j { s.ls[j] with l := (s.ls[j]).l.set x y }).map g = s.ls.map g := fun g hgg => by
    apply List.ext_getElem (by simp)
    intro n a1 a2
    simp only [List.length_map, List.length_set] at a1 a2
    simp only [List.getElem_map, List.getElem_set]
    by_cases e : j = n
    · subst e; simp [hgg]
    · simp [e]
  refine ⟨_, (h.below.trans ⟨f1.os, f1.tape, f1.output, f1.size, h1⟩).trans ⟨f2.os, f2.tape, f2.output, f2.size, h2⟩, by simp; omega, fun k hk => by rw [f2.own k (by omega)]; exact ho1 k hk, h.ng, H.globFrame (H.globFrame h.glob fun k hk => h1 k (by have := h.ng; omega)) fun k hk => h2 k (by have := h.ng; omega), (h.st.fr f1 (lab_ne (by omega))).fr f2 (lab_ne (by omega)), (h.rh.fr f1 (lab_ne (by omega))).fr f2 (lab_ne (by omega)), (h.rw.fr f1 (lab_ne (by omega))).fr f2 (lab_ne (by omega)), ?_, ?_, fun i hi => ?_, fun j' hj' => ?_⟩
  · show Row _ _ (0, 3) _ 1 s.vl (s.ls.set j _).length ((s.ls.set j _).map LS.v1)
    rw [hml LS.v1 (fun _ _ => rfl), List.length_set]
    exact (h.rl.fr f1 (lab_ne (by omega))).fr f2 (lab_ne (by omega))
  · show Row _ _ (0, 4) _ 1 s.vk (s.ls.set j _).length ((s.ls.set j _).map LS.v2)
    rw [hml LS.v2 (fun _ _ => rfl), List.length_set]
    exact (h.rk.fr f1 (lab_ne (by omega))).fr f2 (lab_ne (by omega))
  · obtain ⟨a1, a2, a3⟩ := h.ps i hi
    exact ⟨(a1.fr f1 (lab_ne (by omega))).fr f2 (lab_ne (by omega)), (a2.fr f1 (lab_ne (by omega))).fr f2 (lab_ne (by omega)), (a3.fr f1 (lab_ne (by omega))).fr f2 (lab_ne (by omega))⟩
  · have hj2 : j' < s.ls.length := by have : j' < (s.ls.set j _).length := hj'; simpa using this
    have hj3 : j' < (s.ls.set j { s.ls[j] with l := (s.ls[j]).l.set x y }).length := hj'
    show ListIs _ _ j' ((s.ls.set j { s.ls[j] with l := (s.ls[j]).l.set x y })[j']'hj3)
    rw [List.getElem_set]
    by_cases e : j = j'
    · subst e
      rw [if_pos rfl]
      unfold ListIs
      dsimp only
      rw [List.length_set]
      refine ⟨s1.fr f2 (lab_ne (by omega)), ?_, fun k hk => ?_⟩
      · rw [e2, ← ints_set]; exact (q2'.stored x _).1
      · rw [f2.own k (s2.1.lt k hk).2]; exact s2.2 k hk
    · rw [if_neg e]
      obtain ⟨a1, a2⟩ := h.lss j' hj2
      exact ⟨(a1.fr f1 (lab_ne (by omega))).fr f2 (lab_ne (by omega)), (a2.fr f1 (lab_ne (by omega))).fr f2 (lab_ne (by omega))⟩
end Go.Proofs.YtgegkcjllliifabDoor
