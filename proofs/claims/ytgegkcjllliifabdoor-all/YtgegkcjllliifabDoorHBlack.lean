/-
  The walks of numbersOf and Black.
-/
import Derived.Test.YtgegkcjllliifabDoorHSays
import Derived.Laws.CopyOwn
namespace Go.Proofs.YtgegkcjllliifabDoor
open Go.RowKit

/-- Which of the first k flags are set, rising. -/
def trues (f : Nat → Bool) : Nat → List Nat
  | 0 => []
  | k + 1 => trues f k ++ (if f k then [k] else [])
theorem trues_length (f : Nat → Bool) (k : Nat) : (trues f k).length = cntF f k := by
  induction k with
  | zero => rfl
  | succ k ih =>
    unfold trues cntF
    rw [List.length_append, ih]
    split <;> rfl
theorem trues_mem (f : Nat → Bool) (n k : Nat) : k ∈ trues f n ↔ k < n ∧ f k = true := by
  induction n with
  | zero => simp [trues]
  | succ n ih =>
    unfold trues
    rw [List.mem_append, ih]
    by_cases e : f n = true
    · rw [if_pos e, List.mem_singleton]
      constructor
      · rintro (⟨a, b⟩ | rfl)
        · exact ⟨by omega, b⟩
        · exact ⟨by omega, e⟩
      · rintro ⟨a, b⟩
        by_cases c : k = n
        · exact .inr c
        · exact .inl ⟨by omega, b⟩
    · rw [if_neg e]
      constructor
      · rintro (⟨a, b⟩ | h)
        · exact ⟨by omega, b⟩
        · cases h
      · rintro ⟨a, b⟩
        refine .inl ⟨?_, b⟩
        have : k ≠ n := fun c => e (by rw [← c]; exact b)
        omega

theorem splice_all {α : Type} (cur cs : List α) (h : cur.length = cs.length) : splice cur 0 cs = cs := by
  unfold splice
  rw [Nat.zero_add, ← h, List.drop_length]
  simp

theorem sizeInt : (Tryd.prog.info? 3).map (·.size) = some 1 := by kernel_rfl

/-- What copy makes of a new row of 0s. -/
theorem copy_run (w0 W : World) (ty : TypeId) (g : Nat) (ao : Option Addr) (cap : Nat) (l : List Nat) (hg : W.heap[g]? = some (.cells (List.replicate l.length (Value.int .i64 0)).toArray 3 (0, 0))) (ho : W.ownsRow 0 3 1 (.slice ao l.length cap) l.length (nats l)) (hb : Below w0.heap.size w0 W) (hB : w0.heap.size ≤ g) :
    ∃ w2, (Builtin.copy_ #[41, 41] ty #[.slice (some ⟨g, 0, none⟩) l.length l.length, .slice ao l.length cap]).run Tryd.prog W = .ok (goInt l.length) w2 ∧ w2.heap[g]? = some (.cells (nats l).toArray 3 (0, 0)) ∧ Below w0.heap.size w0 w2 := by
  by_cases h0 : l.length = 0
  · obtain rfl : l = [] := List.eq_nil_of_length_eq_zero h0
    exact ⟨W, run_copy_none (P := Tryd.prog) W 41 41 ty 3 _ _ _ _ _ _ Tryd.underlying41 sizeInt rfl, hg, hb⟩
  · obtain ⟨g', cp, hv, h1, h2, hg'⟩ := ownsRow_some ho (by omega)
    simp only [Value.slice.injEq, true_and] at hv
    obtain ⟨rfl, rfl⟩ := hv
    have hrun := run_copy_row (P := Tryd.prog) W 41 41 ty 3 g 0 l.length l.length ⟨g', 0, none⟩ l.length cap _ 3 (nats l) Tryd.underlying41 sizeInt hg (by simp [nats]) (fun j v hj => by
      have hjl : j < l.length := by
        have := (List.getElem?_eq_some_iff.1 hj).1
        simpa [nats] using this
      rw [add_nat, Nat.zero_add, ho.cellAt _ (by omega)]
      exact hj) (by simp [nats]) (fun v hv => by simp [nats] at hv; obtain ⟨a, _, rfl⟩ := hv; rfl)
    refine ⟨W.setRow g (nats l).toArray, by rw [hrun]; simp [nats], ?_, below_setRow hb hB _⟩
    rw [setRow_heap W g _ _ 3 _ hg]

set_option maxRecDepth 10000 in
set_option maxHeartbeats 1600000 in
theorem numbersOf_any (b n : Nat) (f : Nat → Bool) (w : World) (hb : w.heap[b]? = some (.cells (fcells n fun k => .bool (f k)) 4 (0, 0))) (hn : n ≤ 2000) :
    Calls Tryd.prog 47 #[.slice (some ⟨b, 0, none⟩) n n] w fun e w' => ∃ g, e = .returned (.slice (some ⟨g, 0, none⟩) (trues f n).length (trues f n).length) ∧ w.heap.size ≤ g ∧ w'.heap[g]? = some (.cells (nats (trues f n)).toArray 3 (0, 0)) ∧ Below w.heap.size w w' := by
  obtain ⟨i0, hi, hz0, hz1, hz2⟩ := info_parts Tryd.infoInt
  have hblt := heap_lt hb
  have HB0 := hide hb
  clear hb
  go_enter Tryd.func47, Tryd.ntmps47
  go_wp2
  go_loopw [3, 9] (fun fv i wr => ∃ (k : Nat) (ao : Option Addr) (cap : Nat), k ≤ n ∧ i = .int .i64 k ∧ fv = .slice ao (trues f k).length cap ∧ cap ≤ maxLen ∧ Hid (wr.ownsRow 0 3 1 (.slice ao (trues f k).length cap) (trues f k).length (nats (trues f k))) ∧ Hid (∀ q, (Value.slice ao (trues f k).length cap).ownBlock = some q → w.heap.size ≤ q) ∧ Hid (Below w.heap.size w wr)) (fun _ i _ => 3000 - (intOf i).toNat)
  case atStart => exact ⟨0, none, 0, by omega, rfl, rfl, Nat.zero_le _, hide (World.ownsRow_nil _ _ _ _), hide (fun q hq => by cases hq), hide (Below.refl _ _)⟩
  case round =>
    obtain ⟨k, ao, cap, hk, rfl, rfl, hcap, RW, OW, BW⟩ := hrel
    have hlen : (trues f k).length ≤ k := by rw [trues_length]; exact cntF_le _ _
    by_cases hlt : k < n
    · have bs : wr.cell? ⟨b, k, none⟩ = some (.bool (f k)) := by
        have hb' : wr.heap[b]? = some (.cells (fcells n fun k => .bool (f k)) 4 (0, 0)) := ((unhide BW).block b hblt).trans (unhide HB0)
        rw [cell_of_row wr b _ _ _ _ hb', fcells_at _ _ _ hlt]
      obtain ⟨bk, hbk⟩ : ∃ bk, f k = bk := ⟨_, rfl⟩
      have HS : Hid (trues f (k + 1) = trues f k ++ (if bk then [k] else [])) := by rw [← hbk]; exact rfl
      rw [hbk] at bs
      clear hbk
      cases bk
      · have e : Hid (trues f (k + 1) = trues f k) := hide (by have := unhide HS; simpa using this)
        clear HS
        go_wp2
        go_roundw
        case rel => exact ⟨k + 1, ao, cap, by omega, by go_num, by rw [unhide e], hcap, by rw [unhide e]; exact RW, by rw [unhide e]; exact OW, BW⟩
        case measure => simp [intOf]; omega
      · have e : Hid (trues f (k + 1) = trues f k ++ [k]) := hide (by have := unhide HS; simpa using this)
        have hrt := (unhide RW).alloc (.cells #[.int .i64 (k : Int)] 3)
        have zs := (unhide BW).size
        clear HS
        go_wp2_with (at_builtin; refine stop ?_)
        refine hide (wpList_append_at _ rfl _ _ 41 rfl 3 i0 (.int .i64 0) 1 8 Tryd.underlying41 hi hz0 hz1 hz2 rfl (by decide) (.slice ao (trues f k).length cap) (trues f k).length (nats (trues f k)) rfl hrt ⟨wr.heap.size, 0, none⟩ 1 1 [.int .i64 (k : Int)] rfl rfl ?c1 ?c2 (by decide) (by unfold maxLen; omega) (by omega) ?_)
        case c1 =>
          intro j u hj
          match j, hj with
          | 0, hj => simp at hj; subst hj; exact cell_of_row (wr.alloc (.cells #[.int .i64 (k : Int)] 3)) wr.heap.size 0 _ _ _ (heap_alloc_new wr _)
        case c2 => intro u hu; simp at hu; subst hu; rfl
        intro v' w1 ho hg hloc
        obtain ⟨ao', cap', hv', hd1, hd2⟩ := ownsRow_shape ho
        rw [hv'] at ho hloc ⊢
        clear hv'
        have hl2 : (trues f (k + 1)).length = (trues f k).length + 1 := by rw [unhide e, List.length_append]; rfl
        have RW2 : Hid (w1.ownsRow 0 3 1 (.slice ao' (trues f (k + 1)).length cap') (trues f (k + 1)).length (nats (trues f (k + 1)))) := hide (by
          rw [hl2, unhide e, ← nats_append]
          exact ho)
        have OW2 : Hid (∀ q, (Value.slice ao' (trues f (k + 1)).length cap').ownBlock = some q → w.heap.size ≤ q) := hide (fun q hq => by
          rw [hl2] at hq
          rcases hloc with e1 | ⟨g, e1, e2⟩
          · rw [e1] at hq; exact unhide OW q hq
          · rw [e1] at hq; cases hq; simp at e2; omega)
        have BW2 : Hid (Below w.heap.size w w1) := hide ((unhide BW).trans ⟨hg.os, hg.tape, hg.output, by have := hg.size; simp at this; omega, fun q hq => by
          rw [hg.block q (by simp; omega) (fun e => by have := unhide OW q e.symm; omega), heap_alloc_old wr _ (by omega)]⟩)
        have HL2 := hide hl2
        clear ho hg hloc hrt bs hl2
        go_wp2
        go_roundw
        case rel => exact ⟨k + 1, ao', cap', by omega, by go_num, by rw [unhide HL2], hd2, RW2, OW2, BW2⟩
        case measure => simp [intOf]; omega
    · obtain rfl : k = n := by omega
      have mk := mkInts (trues f k).length (by omega)
      obtain ⟨W, hW, bW, gW, zW⟩ : ∃ W, wr.alloc (intRow (trues f k).length) = W ∧ Below w.heap.size w W ∧ W.heap[wr.heap.size]? = some (.cells (List.replicate (trues f k).length (Value.int .i64 0)).toArray 3 (0, 0)) ∧ W.heap.size = wr.heap.size + 1 := ⟨_, rfl, (unhide BW).alloc (unhide BW).size _, by rw [heap_alloc_new, intRow, madeCells_one], by simp⟩
      have RW2 : W.ownsRow 0 3 1 (.slice ao (trues f k).length cap) (trues f k).length (nats (trues f k)) := by rw [← hW]; exact (unhide RW).alloc _
      have HW := hide hW
      have HR := hide RW2
      have HBW := hide bW
      have HGW := hide gW
      have zs := (unhide BW).size
      clear hW RW2 bW gW
      obtain ⟨w2, hrun, hg2, hb2⟩ := copy_run w W 3 wr.heap.size ao cap (trues f k) (unhide HGW) (unhide HR) (unhide HBW) zs
      have HRUN := hide hrun
      have HG2 := hide hg2
      have HB2 := hide hb2
      clear hrun hg2 hb2
      go_wp2_with fail
      rw [unhide HW, unhide HRUN]
      go_wp2
      go_ret
      exact ⟨wr.heap.size, rfl, zs, unhide HG2, unhide HB2⟩

set_option maxHeartbeats 400000 in
theorem hBlack_any (L : HL) (s : St) (w : World) (R : Rep w L s) :
    Calls Tryd.prog 76 #[.pointer (some ⟨L.h, 0, none⟩)] w fun e w' => ∃ g, e = .returned (.slice (some ⟨g, 0, none⟩) (trues s.blk s.n).length (trues s.blk s.n).length) ∧ w.heap.size ≤ g ∧ w'.heap[g]? = some (.cells (nats (trues s.blk s.n)).toArray 3 (0, 0)) ∧ Below w.heap.size w w' := by
  have fk := R.cells.fk
  have C := hide (numbersOf_any L.bk s.n s.blk w R.hk (by have := R.n2; omega))
  clear R
  go_enter Tryd.func76, Tryd.ntmps76
  go_wp2_with fail
  refine (unhide C).mono ?_
  rintro e w' ⟨g, rfl, h⟩
  go_wp2
  go_ret
  exact ⟨g, rfl, h⟩
end Go.Proofs.YtgegkcjllliifabDoor
