/-
  How the reference heap lies in memory.
-/
import Derived.Test.YtgegkcjllliifabDoorGen
namespace Go.Proofs.YtgegkcjllliifabDoor
open Go.RowKit

/-- Which blocks: the struct, the three slices, the words of each object. -/
structure RL where
  r : Nat
  vo : Value
  vr : Value
  vb : Value
  wb : List Nat

/-- The block of object i's words. -/
def RL.wAt (R : RL) (i : Nat) : Nat := R.wb.getD i 0
def RL.blocks (R : RL) : List Nat := R.r :: (R.vo.ownBlock.toList ++ (R.vr.ownBlock.toList ++ (R.vb.ownBlock.toList ++ R.wb)))

/-- The cells of the objects' slice. -/
def obCells : List Ob → List Nat → List Value
  | o :: os, b :: bs => .int .i64 o.pos :: .bool o.atomic :: .slice (some ⟨b, 0, none⟩) o.ws.length o.ws.length :: obCells os bs
  | _, _ => []

structure RefIs (w : World) (R : RL) (m : Mo) : Prop where
  hr : w.heap[R.r]? = some (.cells #[.int .i64 m.pages, .int .i64 m.stack, .int .i64 m.trig, R.vo, R.vr, R.vb, .int .i64 m.since, .int .i64 m.runs, .int .i64 m.kept] 83 (0, 0))
  ho : w.ownsRow 0 89 3 R.vo m.objs.length (obCells m.objs R.wb)
  hrt : w.ownsRow 0 3 1 R.vr m.roots.length (ints m.roots)
  hb : w.ownsRow 0 4 1 R.vb m.pages (bools m.black)
  hw : ∀ i (h : i < m.objs.length), w.heap[R.wAt i]? = some (.cells (ints (m.objs[i]).ws).toArray 3 (0, 0))
  len : R.wb.length = m.objs.length
  nd : R.blocks.Nodup

/-- Bounds by which nothing wraps. -/
structure Mo.bd (m : Mo) : Prop where
  p1 : 1 ≤ m.pages
  p2 : m.pages ≤ 48
  objs : m.objs.length ≤ 2000
  pos : ∀ i (h : i < m.objs.length), 0 ≤ (m.objs[i]).pos ∧ (m.objs[i]).pos ≤ 2000000 ∧ (m.objs[i]).ws.length ≤ 1536
  roots : m.roots.length ≤ 24
  since : m.since ≤ 4611686018427387904
  runs : m.runs ≤ 4611686018427387904
  kept : m.kept ≤ 4611686018427387904
  stack : m.stack ≤ 16
  trig : m.trig ≤ 4096

theorem obCells_at : ∀ (os : List Ob) (bs : List Nat) (i : Nat) (h : i < os.length) (_ : bs.length = os.length),
    (obCells os bs)[i * 3]? = some (.int .i64 (os[i]).pos) ∧ (obCells os bs)[i * 3 + 1]? = some (.bool (os[i]).atomic) ∧
    (obCells os bs)[i * 3 + 2]? = some (.slice (some ⟨bs.getD i 0, 0, none⟩) (os[i]).ws.length (os[i]).ws.length)
  | [], _, i, h, _ => absurd h (by simp)
  | o :: os, [], _, _, hl => absurd hl (by simp)
  | o :: os, b :: bs, 0, _, _ => by simp [obCells]
  | o :: os, b :: bs, i + 1, h, hl => by
    have := obCells_at os bs i (by simpa using h) (by simpa using hl)
    have e1 : (i + 1) * 3 = i * 3 + 1 + 1 + 1 := by omega
    have e2 : (i + 1) * 3 + 1 = i * 3 + 1 + 1 + 1 + 1 := by omega
    have e3 : (i + 1) * 3 + 2 = i * 3 + 2 + 1 + 1 + 1 := by omega
    rw [e3, e2, e1]
    simpa [obCells] using this

theorem RefIs.cells {w : World} {R : RL} {m : Mo} (h : RefIs w R m) : w.cell? ⟨R.r, 0, none⟩ = some (.int .i64 m.pages) ∧ w.cell? ⟨R.r, 1, none⟩ = some (.int .i64 m.stack) ∧ w.cell? ⟨R.r, 2, none⟩ = some (.int .i64 m.trig) ∧
    w.cell? ⟨R.r, 3, none⟩ = some R.vo ∧ w.cell? ⟨R.r, 4, none⟩ = some R.vr ∧ w.cell? ⟨R.r, 5, none⟩ = some R.vb ∧ w.cell? ⟨R.r, 6, none⟩ = some (.int .i64 m.since) ∧ w.cell? ⟨R.r, 7, none⟩ = some (.int .i64 m.runs) ∧ w.cell? ⟨R.r, 8, none⟩ = some (.int .i64 m.kept) := by
  refine ⟨?_, ?_, ?_, ?_, ?_, ?_, ?_, ?_, ?_⟩ <;> (rw [cell_of_row w R.r _ _ _ _ h.hr]; rfl)
theorem RefIs.frozen {w : World} {R : RL} {m : Mo} (h : RefIs w R m) (k : Nat) : w.frozen? ⟨R.r, k, none⟩ = false := frozen_of_row w R.r k _ _ h.hr

/-- Object i, in memory. -/
theorem RefIs.ob {w : World} {R : RL} {m : Mo} (h : RefIs w R m) (i : Nat) (hi : i < m.objs.length) : ∃ g cap, R.vo = .slice (some ⟨g, 0, none⟩) m.objs.length cap ∧ g < w.heap.size ∧ m.objs.length ≤ cap ∧ cap ≤ maxLen ∧
    w.cell? ⟨g, i * 3, none⟩ = some (.int .i64 (m.objs[i]).pos) ∧ w.cell? ⟨g, i * 3 + 1, none⟩ = some (.bool (m.objs[i]).atomic) ∧
    w.cell? ⟨g, i * 3 + 2, none⟩ = some (.slice (some ⟨R.wAt i, 0, none⟩) (m.objs[i]).ws.length (m.objs[i]).ws.length) := by
  obtain ⟨g, cap, hv, h1, h2, hg⟩ := ownsRow_some h.ho (by omega)
  obtain ⟨e1, e2, e3⟩ := obCells_at m.objs R.wb i hi h.len
  have ho := h.ho
  rw [hv] at ho
  exact ⟨g, cap, hv, hg, h1, h2, by rw [ho.cellAt _ (by omega)]; exact e1, by rw [ho.cellAt _ (by omega)]; exact e2, by rw [ho.cellAt _ (by omega)]; exact e3⟩
/-- Word k of object i. -/
theorem RefIs.word {w : World} {R : RL} {m : Mo} (h : RefIs w R m) (i k : Nat) (hi : i < m.objs.length) (hk : k < (m.objs[i]).ws.length) : w.cell? ⟨R.wAt i, k, none⟩ = some (.int .i64 ((m.objs[i]).ws[k])) := by
  rw [cell_of_row w _ k _ _ _ (h.hw i hi)]
  simp [ints, hk]
theorem RefIs.root {w : World} {R : RL} {m : Mo} (h : RefIs w R m) (i : Nat) (hi : i < m.roots.length) : ∃ g cap, R.vr = .slice (some ⟨g, 0, none⟩) m.roots.length cap ∧ g < w.heap.size ∧ m.roots.length ≤ cap ∧ cap ≤ maxLen ∧ w.cell? ⟨g, i, none⟩ = some (.int .i64 (m.roots[i])) := by
  obtain ⟨g, cap, hv, h1, h2, hg⟩ := ownsRow_some h.hrt (by omega)
  have ho := h.hrt
  rw [hv] at ho
  exact ⟨g, cap, hv, hg, h1, h2, by rw [ho.cellAt _ (by omega)]; simp [ints, hi]⟩
theorem RefIs.blackLen {w : World} {R : RL} {m : Mo} (h : RefIs w R m) : m.black.length = m.pages := by
  have := h.hb.1
  simpa [bools] using this
theorem RefIs.bl {w : World} {R : RL} {m : Mo} (h : RefIs w R m) (i : Nat) (hi : i < m.pages) : ∃ g cap, R.vb = .slice (some ⟨g, 0, none⟩) m.pages cap ∧ g < w.heap.size ∧ m.pages ≤ cap ∧ cap ≤ maxLen ∧ w.cell? ⟨g, i, none⟩ = some (.bool (m.black.getD i false)) := by
  obtain ⟨g, cap, hv, h1, h2, hg⟩ := ownsRow_some h.hb (by omega)
  have ho := h.hb
  have hl := h.blackLen
  rw [hv] at ho
  exact ⟨g, cap, hv, hg, h1, h2, by rw [ho.cellAt _ (by omega)]; simp [bools, hl, hi]⟩

theorem RL.wAt_mem (R : RL) (i : Nat) (h : i < R.wb.length) : R.wAt i ∈ R.blocks := by
  have := getD_mem R.wb i h
  simp only [RL.blocks, List.mem_cons, List.mem_append]
  exact .inr (.inr (.inr (.inr this)))

/-- What leaves a heap's blocks alone leaves the heap as it is. -/
theorem RefIs.agree {w w' : World} {R : RL} {m : Mo} (h : RefIs w R m) (ha : ∀ k, k ∈ R.blocks → w'.heap[k]? = w.heap[k]?) : RefIs w' R m := by
  refine ⟨by rw [ha R.r (by simp [RL.blocks])]; exact h.hr, ownsRow_agree h.ho fun k hk => ha k ?_, ownsRow_agree h.hrt fun k hk => ha k ?_, ownsRow_agree h.hb fun k hk => ha k ?_, fun i hi => ?_, h.len, h.nd⟩
  · simp [RL.blocks, hk]
  · simp [RL.blocks, hk]
  · simp [RL.blocks, hk]
  · rw [ha _ (R.wAt_mem i (by rw [h.len]; exact hi))]
    exact h.hw i hi

theorem RefIs.lt {w : World} {R : RL} {m : Mo} (h : RefIs w R m) : ∀ k, k ∈ R.blocks → k < w.heap.size := by
  intro k hk
  simp only [RL.blocks, List.mem_cons, List.mem_append, Option.mem_toList] at hk
  rcases hk with rfl | hk | hk | hk | hk
  · exact heap_lt h.hr
  · exact (h.ho.lt k hk).2
  · exact (h.hrt.lt k hk).2
  · exact (h.hb.lt k hk).2
  · obtain ⟨i, hi, rfl⟩ := List.getElem_of_mem hk
    have := h.hw i (by rw [← h.len]; exact hi)
    unfold RL.wAt at this
    rw [List.getD_eq_getElem?_getD, List.getElem?_eq_getElem hi] at this
    exact heap_lt this

theorem RefIs.below {w w' : World} {R : RL} {m : Mo} (h : RefIs w R m) (hB : Below w.heap.size w w') : RefIs w' R m := h.agree fun k hk => hB.block k (h.lt k hk)

end Go.Proofs.YtgegkcjllliifabDoor
