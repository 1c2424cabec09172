/-
  The walk of the law's list.
-/
import Derived.Test.YtgegkcjllliifabDoorLawAll
import Derived.Laws.CopyOwn
namespace Go.Proofs.YtgegkcjllliifabDoor
open Go.RowKit

/-- All of the law's but the struct and the rows of lists. -/
structure Core (H : HeapI) (N0 : Nat) (w0 w : World) (O : Nat → Nat × Nat) (s : LSt) : Prop where
  below : Below N0 w0 w
  n0 : N0 ≤ w.heap.size
  old : ∀ k, k < N0 → O k = (9, 9)
  ng : H.ng ≤ N0
  glob : H.glob w
  rh : Row w O (0, 1) 72 1 s.vh s.hs.length (s.hs.map fun p => Value.pointer (some ⟨p.pb, 0, none⟩))
  rw : Row w O (0, 2) 3 1 s.vw s.words.length (ints s.words)
  ps : ∀ i (hi : i < s.hs.length), PairIs H w O i (s.hs[i])
  lss : ∀ j (hj : j < s.ls.length), ListIs w O j (s.ls[j])
theorem LawIs.core {H : HeapI} {N0 : Nat} {w0 w : World} {O : Nat → Nat × Nat} {s : LSt} (h : LawIs H N0 w0 w O s) : Core H N0 w0 w O s := ⟨h.below, h.n0, h.old, h.ng, h.glob, h.rh, h.rw, h.ps, h.lss⟩
theorem Core.fr {H : HeapI} {N0 : Nat} {w0 w w' : World} {O O' : Nat → Nat × Nat} {s : LSt} {lab : Nat × Nat} (h : Core H N0 w0 w O s) (f : Fr lab w O w' O') (hl : lab = (0, 0) ∨ lab = (0, 3) ∨ lab = (0, 4) ∨ lab.1 = 8) : Core H N0 w0 w' O' s := by
  obtain ⟨x, y⟩ := lab
  simp only [Prod.mk.injEq] at hl
  have n0 := h.n0
  have hs := f.size
  have hk : ∀ k, k < N0 → w'.heap[k]? = w.heap[k]? := fun k hk => f.block k (by omega) (by rw [h.old k hk]; exact lab_ne (by omega))
  refine ⟨h.below.trans ⟨f.os, f.tape, f.output, f.size, hk⟩, by omega, fun k hk => by rw [f.own k (by omega)]; exact h.old k hk, h.ng, H.globFrame h.glob fun k hk' => hk k (by have := h.ng; omega), h.rh.fr f (lab_ne (by omega)), h.rw.fr f (lab_ne (by omega)), fun i hi => ?_, fun j hj => ⟨(h.lss j hj).1.fr f (lab_ne (by omega)), (h.lss j hj).2.fr f (lab_ne (by omega))⟩⟩
  exact ⟨(h.ps i hi).1.fr f (lab_ne (by omega)), (h.ps i hi).2.1.fr f (lab_ne (by omega)), (h.ps i hi).2.2.fr f (lab_ne (by omega))⟩

theorem LawIs.loc {H : HeapI} {N0 : Nat} {w0 w w' : World} {O O' : Nat → Nat × Nat} {s : LSt} {lab : Nat × Nat} (h : LawIs H N0 w0 w O s) (f : Fr lab w O w' O') (hl : lab.1 = 8) : LawIs H N0 w0 w' O' s := by
  have c := h.core.fr f (.inr (.inr (.inr hl)))
  obtain ⟨x, y⟩ := lab
  simp only at hl
  exact ⟨c.below, c.n0, c.old, c.ng, c.glob, h.st.fr f (lab_ne (by omega)), c.rh, c.rw, h.rl.fr f (lab_ne (by omega)), h.rk.fr f (lab_ne (by omega)), c.ps, c.lss⟩

theorem sizeIntL : (Tryd.prog.info? 3).map (·.size) = some 1 := by kernel_rfl
theorem splice_allL {α : Type} (cur cs : List α) (h : cur.length = cs.length) : splice cur 0 cs = cs := by
  unfold splice
  rw [Nat.zero_add, ← h, List.drop_length]
  simp
theorem copy_ints (w0 W : World) (ty : TypeId) (g : Nat) (ao : Option Addr) (cap : Nat) (l : List Int) (hg : W.heap[g]? = some (.cells (List.replicate l.length (Value.int .i64 0)).toArray 3 (0, 0))) (ho : W.ownsRow 0 3 1 (.slice ao l.length cap) l.length (ints l)) (hb : Below w0.heap.size w0 W) (hB : w0.heap.size ≤ g) :
    ∃ w2, (Builtin.copy_ #[41, 41] ty #[.slice (some ⟨g, 0, none⟩) l.length l.length, .slice ao l.length cap]).run Tryd.prog W = .ok (goInt l.length) w2 ∧ w2.heap[g]? = some (.cells (ints l).toArray 3 (0, 0)) ∧ Below w0.heap.size w0 w2 := by
  by_cases h0 : l.length = 0
  · obtain rfl : l = [] := List.eq_nil_of_length_eq_zero h0
    exact ⟨W, run_copy_none (P := Tryd.prog) W 41 41 ty 3 _ _ _ _ _ _ Tryd.underlying41 sizeIntL rfl, hg, hb⟩
  · obtain ⟨g', cp, hv, h1, h2, hg'⟩ := ownsRow_some ho (by omega)
    simp only [Value.slice.injEq, true_and] at hv
    obtain ⟨rfl, rfl⟩ := hv
    have hrun := run_copy_row (P := Tryd.prog) W 41 41 ty 3 g 0 l.length l.length ⟨g', 0, none⟩ l.length cap _ 3 (ints l) Tryd.underlying41 sizeIntL hg (by simp [ints]) (fun j v hj => by
      have hjl : j < l.length := by
        have := (List.getElem?_eq_some_iff.1 hj).1
        simpa [ints] using this
      rw [add_nat, Nat.zero_add, ho.cellAt _ (by omega)]
      exact hj) (by simp [ints]) (fun v hv => by simp [ints] at hv; obtain ⟨a, _, rfl⟩ := hv; rfl)
    refine ⟨W.setRow g (ints l).toArray, by rw [hrun]; simp [ints], ?_, below_setRow hb hB _⟩
    rw [setRow_heap W g _ _ 3 _ hg]

theorem Tryd.infoSlice : (Tryd.prog.info? 41).map (fun i => (i.zero, i.size, i.bytes)) = some (some (.slice none 0 0), 1, 24) := by kernel_rfl

/-- The struct holds another row. -/
theorem touch_app {w3 w4 : World} {v : Value} {x : Obj} (hg : (w3.alloc x).grownBy w4 v.ownBlock) : Touch v.ownBlock.toList w3 w4 := by
  refine ⟨hg.os, hg.tape, hg.output, by have := hg.size; simp at this; omega, fun k hk hn => ?_⟩
  rw [hg.block k (by simp; omega) (fun e => hn (by simpa using e.symm)), heap_alloc_old w3 _ hk]
theorem row_app {w3 w4 : World} {O : Nat → Nat × Nat} {lab : Nat × Nat} {e : Nat} {v v' : Value} {n m : Nat} {l l' : List Value} {x : Obj} (h : Row w3 O lab e 1 v n l) (ho : w4.ownsRow 0 e 1 v' m l') (hloc : v'.ownBlock = v.ownBlock ∨ ∃ g, v'.ownBlock = some g ∧ (w3.alloc x).heap.size ≤ g) : Row w4 (ext w3 O lab) lab e 1 v' m l' := by
  refine ⟨ho, fun k hk => ?_⟩
  rcases hloc with e | ⟨g, e1, e2⟩
  · rw [e] at hk
    rw [ext_old w3 O _ k (h.1.lt k hk).2]
    exact h.2 k hk
  · rw [e1] at hk; cases hk
    simp at e2
    exact ext_new w3 O _ _ (by omega)

/-- A list more. -/
def LSt.addL (s : LSt) (v1 v2 a c : Value) (l : List Int) : LSt := { s with vl := v1, vk := v2, ls := s.ls ++ [⟨a, c, l⟩] }
theorem Core.addL {H : HeapI} {N0 : Nat} {w0 w : World} {O : Nat → Nat × Nat} {s : LSt} (h : Core H N0 w0 w O s) {v1 v2 a c : Value} {l : List Int} (st : Blk w O (0, 0) s.wB (worldObj { s with vl := v1, vk := v2 }))
    (r1 : Row w O (0, 3) 41 1 v1 (s.ls.length + 1) (s.ls.map LS.v1 ++ [a])) (r2 : Row w O (0, 4) 41 1 v2 (s.ls.length + 1) (s.ls.map LS.v2 ++ [c])) (ra : Row w O (8, 1) 3 1 a l.length (ints l)) (rc : Row w O (8, 3) 3 1 c l.length (ints l)) :
    ∃ O', LawIs H N0 w0 w O' (s.addL v1 v2 a c l) := by
  obtain ⟨O', hO⟩ : ∃ O' : Nat → Nat × Nat, O' = fun k => if O k = (8, 1) then (4, s.ls.length) else if O k = (8, 3) then (5, s.ls.length) else O k := ⟨_, rfl⟩
  have keep : ∀ k, (O k).1 ≠ 8 → O' k = O k := fun k hk => by
    rw [hO]
    show (if _ then _ else _) = _
    rw [if_neg (fun e => hk (by rw [e])), if_neg (fun e => hk (by rw [e]))]
  have kl : ∀ (x y : Nat) k, x ≠ 8 → O k = (x, y) → O' k = (x, y) := fun x y k hx hk => by rw [keep k (by rw [hk]; exact hx), hk]
  have row : ∀ {x y e : Nat} {v : Value} {n : Nat} {xs : List Value}, x ≠ 8 → Row w O (x, y) e 1 v n xs → Row w O' (x, y) e 1 v n xs := fun hx r => ⟨r.1, fun k hk => kl _ _ k hx (r.2 k hk)⟩
  refine ⟨O', h.below, h.n0, fun k hk => kl 9 9 k (by omega) (h.old k hk), h.ng, h.glob, ⟨st.1, kl 0 0 _ (by omega) st.2⟩, row (by omega) h.rh, row (by omega) h.rw, ?_, ?_, fun i hi => ?_, fun j hj => ?_⟩
  · show Row w O' (0, 3) _ 1 v1 (s.ls ++ [_]).length ((s.ls ++ [_]).map LS.v1)
    rw [List.length_append, List.map_append]
    exact row (by omega) r1
  · show Row w O' (0, 4) _ 1 v2 (s.ls ++ [_]).length ((s.ls ++ [_]).map LS.v2)
    rw [List.length_append, List.map_append]
    exact row (by omega) r2
  · obtain ⟨q1, q2, q3⟩ := h.ps i hi
    exact ⟨⟨q1.1, kl _ _ _ (by omega) q1.2⟩, ⟨q2.1, fun k hk => kl _ _ k (by omega) (q2.2 k hk)⟩, ⟨q3.1, fun k hk => kl _ _ k (by omega) (q3.2 k hk)⟩⟩
  · have hj' : j < (s.ls ++ [(⟨a, c, l⟩ : LS)]).length := hj
    show ListIs w O' j ((s.ls ++ [(⟨a, c, l⟩ : LS)])[j]'hj')
    by_cases e : j < s.ls.length
    · rw [List.getElem_append_left e]
      exact ⟨row (by omega) (h.lss j e).1, row (by omega) (h.lss j e).2⟩
    · have e2 : j = s.ls.length := by simp at hj'; omega
      subst e2
      rw [List.getElem_append_right (Nat.le_refl _)]
      simp only [Nat.sub_self, List.getElem_singleton]
      refine ⟨⟨ra.1, fun k hk => ?_⟩, ⟨rc.1, fun k hk => ?_⟩⟩
      · rw [hO]; show (if _ then _ else _) = _; rw [if_pos (ra.2 k hk)]
      · have := rc.2 k hk
        rw [hO]; show (if _ then _ else _) = _
        rw [if_neg (by rw [this]; exact lab_ne (by omega)), if_pos this]

set_option maxRecDepth 10000 in
set_option maxHeartbeats 3200000 in
theorem list_any {H : HeapI} {N0 : Nat} {w0 w : World} {O : Nat → Nat × Nat} {s : LSt} (h : LawIs H N0 w0 w O s) (l : List Int) (ao bo : Option Addr) (cap : Nat) (ha : Row w O (8, 1) 3 1 (.slice ao l.length l.length) l.length (ints l)) (hb : Row w O (8, 2) 3 1 (.slice bo l.length cap) l.length (ints l)) (hl : l.length ≤ 3000) (hls : s.ls.length ≤ 100000000) :
    Calls Tryd.prog 75 #[.pointer (some ⟨s.wB, 0, none⟩), .slice ao l.length l.length, .slice bo l.length cap] w fun e w' => e = .returned (.bool true) ∧ ∃ v1 v2 c O', LawIs H N0 w0 w' O' (s.addL v1 v2 (.slice ao l.length l.length) c l) := by
  obtain ⟨i0, hi, hz0, hz1, hz2⟩ := info_parts Tryd.infoSlice
  have CS := hide (sameInts_true (.slice ao l.length l.length) (.slice bo l.length cap) l w ha.1 hb.1 (by omega))
  have HH := hide h
  have HA := hide ha
  have HB := hide hb
  clear h ha hb
  go_enter Tryd.func75, Tryd.ntmps75
  go_wp2_with fail
  refine (unhide CS).mono ?_
  rintro e w1 ⟨rfl, q, rfl⟩
  have mk := mkInts l.length (by omega)
  obtain ⟨W, hW, bW, gW, zW⟩ : ∃ W, (w.drewN q).alloc (intRow l.length) = W ∧ Below w.heap.size w W ∧ W.heap[w.heap.size]? = some (.cells (List.replicate l.length (Value.int .i64 0)).toArray 3 (0, 0)) ∧ W.heap.size = w.heap.size + 1 := ⟨_, rfl, (belowDrewN' _ w q).alloc (Nat.le_refl _) _, (heap_alloc_new (w.drewN q) (intRow l.length)).trans (by rw [intRow, madeCells_one]), by simp⟩
  have rb := ownsRow_agree (unhide HB).1 fun k hk => bW.block k ((unhide HB).1.lt k hk).2
  obtain ⟨w3, hrun, hg3, hb3⟩ := copy_ints w W 3 w.heap.size bo cap l gW rb bW (Nat.le_refl _)
  have HW := hide hW
  have HRUN := hide hrun
  have F1 := hide (Fr.of_below (O := O) (8, 3) hb3)
  have RC : Hid (Row w3 (ext w O (8, 3)) (8, 3) 3 1 (.slice (some ⟨w.heap.size, 0, none⟩) l.length l.length) l.length (ints l)) := hide (by
    refine ⟨⟨by simp [ints], .inr ⟨w.heap.size, l.length, _, rfl, Nat.zero_le _, hg3, Nat.le_refl _, by unfold maxLen; omega, by simp [ints], ?_⟩⟩, fun k hk => ?_⟩
    · rw [List.take_of_length_le (by simp [ints])]
    · cases hk; exact ext_new w O _ _ (Nat.le_refl _))
  have C3 := hide ((unhide HH).core.fr (unhide F1) (.inr (.inr (.inr rfl))))
  have ST3 := hide ((unhide HH).st.fr (unhide F1) (lab_ne (by omega)))
  have RL3 := hide ((unhide HH).rl.fr (unhide F1) (lab_ne (by omega)))
  have RK3 := hide ((unhide HH).rk.fr (unhide F1) (lab_ne (by omega)))
  have RA3 := hide ((unhide HA).fr (unhide F1) (lab_ne (by omega)))
  clear hW bW gW zW rb hrun hg3 hb3 CS HH HA HB F1
  generalize ext w O (8, 3) = O3 at *
  obtain ⟨a1, cp1, hv1, hx1, hx2⟩ := ownsRow_shape (unhide RL3).1
  obtain ⟨a2, cp2, hv2, hy1, hy2⟩ := ownsRow_shape (unhide RK3).1
  have d3 : w3.cell? ⟨s.wB, 3, none⟩ = some s.vl := by have := (unhide ST3).1; unfold worldObj at this; rw [cell_of_row w3 s.wB _ _ _ _ this]; rfl
  have dz := fun k => frozen_of_row w3 s.wB k _ _ (unhide ST3).1
  have hwl : s.wB < w3.heap.size := heap_lt (unhide ST3).1
  rw [hv1] at d3
  rw [hv1] at RL3
  rw [hv2] at RK3
  have HV2 := hide hv2
  have HV1 := hide hv1
  clear hv1 hv2 dz
  go_wp2_with fail
  rw [unhide HW, unhide HRUN]
  clear HW HRUN mk
  go_wp2_with (at_builtin; refine stop ?_)
  refine hide (wpList_append_at _ rfl _ _ 47 rfl 41 i0 (.slice none 0 0) 1 24 Tryd.underlying47 hi hz0 hz1 hz2 rfl (by decide) (.slice a1 s.ls.length cp1) s.ls.length (s.ls.map LS.v1) rfl ((unhide RL3).1.alloc _) ⟨w3.heap.size, 0, none⟩ 1 1 [.slice ao l.length l.length] rfl rfl ?c1 ?c2 (by decide) (by unfold maxLen; omega) (by omega) ?_)
  case c1 =>
    intro j u hj
    match j, hj with
    | 0, hj => simp at hj; subst hj; exact cell_of_row (w3.alloc (.cells #[.slice ao l.length l.length] 41)) w3.heap.size 0 _ _ _ (heap_alloc_new w3 _)
  case c2 => intro u hu; simp at hu; subst hu; rfl
  intro v1 w4 ho hg hloc
  have f4 := Fr.of_touch (O := O3) (lab := (0, 3)) (touch_app hg) (fun k hk => (unhide RL3).2 k (by simpa using hk))
  have R1 := hide (row_app (unhide RL3) ho hloc)
  have C4 := hide ((unhide C3).fr f4 (.inr (.inl rfl)))
  have ST4 := hide ((unhide ST3).fr f4 (lab_ne (by omega)))
  have RK4 := hide ((unhide RK3).fr f4 (lab_ne (by omega)))
  have RA4 := hide ((unhide RA3).fr f4 (lab_ne (by omega)))
  have RC4 := hide ((unhide RC).fr f4 (lab_ne (by omega)))
  obtain ⟨b1, cq1, hw1, hd1, hd2⟩ := ownsRow_shape ho
  rw [hw1] at R1 ⊢
  clear ho hg hloc f4 RL3 C3 ST3 RK3 RA3 RC hw1 hwl d3
  generalize ext w3 O3 (0, 3) = O4 at *
  have hs4 := (unhide ST4).1
  have hwl : s.wB < w4.heap.size := heap_lt hs4
  have dz := fun k => frozen_of_row w4 s.wB k _ _ hs4
  unfold worldObj at hs4
  have d3 : w4.cell? ⟨s.wB, 3, none⟩ = some s.vl := by rw [cell_of_row w4 s.wB _ _ _ _ hs4]; rfl
  have d4 : w4.cell? ⟨s.wB, 4, none⟩ = some s.vk := by rw [cell_of_row w4 s.wB _ _ _ _ hs4]; rfl
  have hs5 := heap_setCell_same w4 s.wB 3 _ _ (.slice b1 (s.ls.length + 1) cq1) hs4
  have t5 : Touch [s.wB] w4 (w4.setCell ⟨s.wB, 3, none⟩ (.slice b1 (s.ls.length + 1) cq1)) := ⟨rfl, rfl, rfl, by simp, fun k _ hk => heap_setCell_other w4 ⟨s.wB, 3, none⟩ k _ (by simpa using hk)⟩
  have f5 := Fr.of_touch (O := O4) (lab := (0, 0)) t5 (fun k hk => by simp at hk; rw [hk]; exact (unhide ST4).2)
  have R15 := hide ((unhide R1).fr f5 (lab_ne (by omega)))
  have C5 := hide ((unhide C4).fr f5 (.inl rfl))
  have ST5 : Hid (Blk (w4.setCell ⟨s.wB, 3, none⟩ (.slice b1 (s.ls.length + 1) cq1)) (ext w4 O4 (0, 0)) (0, 0) s.wB (worldObj { s with vl := .slice b1 (s.ls.length + 1) cq1 })) := hide ⟨by rw [hs5]; rfl, by rw [ext_old w4 _ _ _ hwl]; exact (unhide ST4).2⟩
  have RK5 := hide ((unhide RK4).fr f5 (lab_ne (by omega)))
  have RA5 := hide ((unhide RA4).fr f5 (lab_ne (by omega)))
  have RC5 := hide ((unhide RC4).fr f5 (lab_ne (by omega)))
  rw [unhide HV2] at d4
  rw [unhide HV1] at d3
  clear hs4 hs5 t5 f5 R1 C4 ST4 RK4 RA4 RC4
  generalize ext w4 O4 (0, 0) = O5 at *
  go_wp2_with (at_builtin; refine stop ?_)
  have hz5 : (w4.setCell ⟨s.wB, 3, none⟩ (.slice b1 (s.ls.length + 1) cq1)).heap.size = w4.heap.size := by simp
  generalize hW5 : w4.setCell ⟨s.wB, 3, none⟩ (.slice b1 (s.ls.length + 1) cq1) = w5 at *
  refine hide (wpList_append_at _ rfl _ _ 47 rfl 41 i0 (.slice none 0 0) 1 24 Tryd.underlying47 hi hz0 hz1 hz2 rfl (by decide) (.slice a2 s.ls.length cp2) s.ls.length (s.ls.map LS.v2) rfl ((unhide RK5).1.alloc _) ⟨w4.heap.size, 0, none⟩ 1 1 [.slice (some ⟨w.heap.size, 0, none⟩) l.length l.length] rfl rfl ?c1 ?c2 (by decide) (by unfold maxLen; omega) (by omega) ?_)
  case c1 =>
    intro j u hj
    match j, hj with
    | 0, hj => simp at hj; subst hj; exact cell_of_row (w5.alloc (.cells #[.slice (some ⟨w.heap.size, 0, none⟩) l.length l.length] 41)) w4.heap.size 0 _ _ _ (by rw [← hz5]; exact heap_alloc_new w5 _)
  case c2 => intro u hu; simp at hu; subst hu; rfl
  intro v2 w6 ho hg hloc
  have f6 := Fr.of_touch (O := O5) (lab := (0, 4)) (touch_app hg) (fun k hk => (unhide RK5).2 k (by simpa using hk))
  have R2 := hide (row_app (unhide RK5) ho hloc)
  have C6 := hide ((unhide C5).fr f6 (.inr (.inr (.inl rfl))))
  have ST6 := hide ((unhide ST5).fr f6 (lab_ne (by omega)))
  have R16 := hide ((unhide R15).fr f6 (lab_ne (by omega)))
  have RA6 := hide ((unhide RA5).fr f6 (lab_ne (by omega)))
  have RC6 := hide ((unhide RC5).fr f6 (lab_ne (by omega)))
  obtain ⟨b2, cq2, hw2, he1, he2⟩ := ownsRow_shape ho
  rw [hw2] at R2 ⊢
  clear ho hg hloc f6 RK5 C5 ST5 R15 RA5 RC5 hw2 hwl d3 d4 dz hW5 hz5
  generalize ext w5 O5 (0, 4) = O6 at *
  have hs6 := (unhide ST6).1
  have hwl : s.wB < w6.heap.size := heap_lt hs6
  have dz := fun k => frozen_of_row w6 s.wB k _ _ hs6
  unfold worldObj at hs6
  have d4 : w6.cell? ⟨s.wB, 4, none⟩ = some s.vk := by rw [cell_of_row w6 s.wB _ _ _ _ hs6]; rfl
  rw [unhide HV2] at d4
  have hs7 := heap_setCell_same w6 s.wB 4 _ _ (.slice b2 (s.ls.length + 1) cq2) hs6
  have t7 : Touch [s.wB] w6 (w6.setCell ⟨s.wB, 4, none⟩ (.slice b2 (s.ls.length + 1) cq2)) := ⟨rfl, rfl, rfl, by simp, fun k _ hk => heap_setCell_other w6 ⟨s.wB, 4, none⟩ k _ (by simpa using hk)⟩
  have f7 := Fr.of_touch (O := O6) (lab := (0, 0)) t7 (fun k hk => by simp at hk; rw [hk]; exact (unhide ST6).2)
  have HF : Hid (∃ O', LawIs H N0 w0 (w6.setCell ⟨s.wB, 4, none⟩ (.slice b2 (s.ls.length + 1) cq2)) O' (s.addL (.slice b1 (s.ls.length + 1) cq1) (.slice b2 (s.ls.length + 1) cq2) (.slice ao l.length l.length) (.slice (some ⟨w.heap.size, 0, none⟩) l.length l.length) l)) := hide (by
    refine ((unhide C6).fr f7 (.inl rfl)).addL ⟨by rw [hs7]; rfl, by rw [ext_old w6 _ _ _ hwl]; exact (unhide ST6).2⟩ ((unhide R16).fr f7 (lab_ne (by omega))) ((unhide R2).fr f7 (lab_ne (by omega))) ((unhide RA6).fr f7 (lab_ne (by omega))) ((unhide RC6).fr f7 (lab_ne (by omega))))
  clear hs6 hs7 t7 f7 C6 ST6 R16 RA6 RC6 R2
  go_wp2
  go_ret
  obtain ⟨O', hO⟩ := unhide HF
  exact ⟨rfl, _, _, _, O', hO⟩
end Go.Proofs.YtgegkcjllliifabDoor
