/-
  The objects of the reference heap, replaced as a whole.
-/
import Derived.Test.YtgegkcjllliifabDoorRefRoots
import Derived.Laws.AppendOwnNone
namespace Go.Proofs.YtgegkcjllliifabDoor
open Go.RowKit

theorem obCells_length : ∀ (os : List Ob) (bs : List Nat), bs.length = os.length → (obCells os bs).length = os.length * 3
  | [], _, _ => by simp [obCells]
  | o :: os, [], h => absurd h (by simp)
  | o :: os, b :: bs, h => by
    have := obCells_length os bs (by simpa using h)
    simp only [obCells, List.length_cons, this]
    omega
theorem obCells_append : ∀ (os : List Ob) (bs : List Nat) (os' : List Ob) (bs' : List Nat), bs.length = os.length → obCells (os ++ os') (bs ++ bs') = obCells os bs ++ obCells os' bs'
  | [], [], _, _, _ => by simp [obCells]
  | [], b :: bs, _, _, h => absurd h (by simp)
  | o :: os, [], _, _, h => absurd h (by simp)
  | o :: os, b :: bs, os', bs', h => by
    simp only [List.cons_append, obCells, obCells_append os bs os' bs' (by simpa using h)]
theorem obCells_one (os : List Ob) (bs : List Nat) (h : bs.length = os.length) : ∀ u ∈ obCells os bs, u.oneCell' = true := by
  induction os generalizing bs with
  | nil => intro u hu; simp [obCells] at hu
  | cons o os ih =>
    cases bs with
    | nil => simp at h
    | cons b bs =>
      intro u hu
      simp only [obCells, List.mem_cons] at hu
      rcases hu with rfl | rfl | rfl | hu
      · rfl
      · rfl
      · rfl
      · exact ih bs (by simpa using h) u hu
/-- The cells of a part of the objects, as they lie. -/
theorem RefIs.part {w : World} {R : RL} {m : Mo} (h : RefIs w R m) (i n : Nat) (hi : i + n ≤ m.objs.length) {g cap : Nat} (hv : R.vo = .slice (some ⟨g, 0, none⟩) m.objs.length cap) :
    ∀ j u, (obCells ((m.objs.drop i).take n) ((R.wb.drop i).take n))[j]? = some u → w.cell? ⟨g, i * 3 + j, none⟩ = some u := by
  intro j u hu
  have hl := h.len
  have l1 : ((R.wb.drop i).take n).length = ((m.objs.drop i).take n).length := by simp [hl]
  have hlen := obCells_length _ _ l1
  have hj : j < n * 3 := by
    have := (List.getElem?_eq_some_iff.1 hu).1
    rw [hlen] at this
    simp at this
    omega
  have ho := h.ho
  rw [hv] at ho
  rw [ho.cellAt _ (by omega)]
  have e1 : m.objs = m.objs.take i ++ ((m.objs.drop i).take n ++ (m.objs.drop i).drop n) := by rw [List.take_append_drop, List.take_append_drop]
  have e2 : R.wb = R.wb.take i ++ ((R.wb.drop i).take n ++ (R.wb.drop i).drop n) := by rw [List.take_append_drop, List.take_append_drop]
  have e3 : obCells m.objs R.wb = obCells (m.objs.take i) (R.wb.take i) ++ (obCells ((m.objs.drop i).take n) ((R.wb.drop i).take n) ++ obCells ((m.objs.drop i).drop n) ((R.wb.drop i).drop n)) := by
    rw [← obCells_append _ _ _ _ l1, ← obCells_append _ _ _ _ (by simp [hl]), ← e1, ← e2]
  have l0 : (obCells (m.objs.take i) (R.wb.take i)).length = i * 3 := by
    rw [obCells_length _ _ (by simp [hl])]
    simp
    omega
  rw [e3, List.getElem?_append_right (by omega), l0, Nat.add_sub_cancel_left, List.getElem?_append_left (by rw [hlen]; simp; omega)]
  exact hu

/-- The objects are replaced: the heap itself. -/
theorem RefIs.setObjsIs {w w1 : World} {R : RL} {m : Mo} (h : RefIs w R m) (v' : Value) (objs' : List Ob) (wb' : List Nat) (ha : ∀ k, k < w.heap.size → R.vo.ownBlock ≠ some k → w1.heap[k]? = w.heap[k]?)
    (ho : w1.ownsRow 0 89 3 v' objs'.length (obCells objs' wb')) (hw : ∀ i (hi : i < objs'.length), w1.heap[wb'.getD i 0]? = some (.cells (ints (objs'[i]).ws).toArray 3 (0, 0))) (hlen : wb'.length = objs'.length)
    (hl : v'.ownBlock = R.vo.ownBlock ∨ v'.ownBlock = none ∨ ∃ g, v'.ownBlock = some g ∧ w.heap.size ≤ g) (nd : wb'.Nodup) (hin : ∀ k, k ∈ wb' → k ∈ R.wb ∨ w.heap.size ≤ k) (hout : ∀ k, v'.ownBlock = some k → k ∉ wb') :
    RefIs (w1.setCell ⟨R.r, 3, none⟩ v') { R with vo := v', wb := wb' } { m with objs := objs' } := by
  obtain ⟨p1, p2, p3, p4, p5⟩ := h.parts
  have hrlt : R.r < w.heap.size := h.lt _ (by simp [RL.blocks])
  have hr1 : w1.heap[R.r]? = w.heap[R.r]? := ha R.r hrlt fun e => (p1 _ e).1 rfl
  have hne : ∀ k, k ≠ R.r → (w1.setCell ⟨R.r, 3, none⟩ v').heap[k]? = w1.heap[k]? := fun k hk => heap_setCell_other w1 ⟨R.r, 3, none⟩ k v' hk
  have keep : ∀ k, k ∈ R.blocks → k ≠ R.r → R.vo.ownBlock ≠ some k → (w1.setCell ⟨R.r, 3, none⟩ v').heap[k]? = w.heap[k]? := fun k hk e1 e2 => by rw [hne k e1, ha k (h.lt k hk) e2]
  have hv'r : ∀ k, v'.ownBlock = some k → k ≠ R.r ∧ R.vr.ownBlock ≠ some k ∧ R.vb.ownBlock ≠ some k := by
    intro k hk
    rcases hl with e1 | e1 | ⟨g, e1, e2⟩
    · rw [e1] at hk; exact ⟨(p1 k hk).1, (p1 k hk).2.1, (p1 k hk).2.2.1⟩
    · rw [e1] at hk; cases hk
    · rw [e1] at hk; cases hk
      exact ⟨by omega, fun e => by have := h.lt k (by simp [RL.blocks, e]); omega, fun e => by have := h.lt k (by simp [RL.blocks, e]); omega⟩
  have hwb : ∀ k, k ∈ wb' → k ≠ R.r ∧ R.vr.ownBlock ≠ some k ∧ R.vb.ownBlock ≠ some k := by
    intro k hk
    rcases hin k hk with e | e
    · exact ⟨(p4 k e).1, (p4 k e).2.2.1, (p4 k e).2.2.2⟩
    · exact ⟨by omega, fun e' => by have := h.lt k (by simp [RL.blocks, e']); omega, fun e' => by have := h.lt k (by simp [RL.blocks, e']); omega⟩
  refine ⟨?_, ?_, ?_, ?_, ?_, hlen, ?_⟩
  · exact h.field hr1 3 v'
  · exact ownsRow_agree ho fun k hk => hne k (hv'r k hk).1
  · refine ownsRow_agree h.hrt fun k hk => keep k ?_ (p2 k hk).1 (p2 k hk).2.1
    simp [RL.blocks, hk]
  · refine ownsRow_agree h.hb fun k hk => keep k ?_ (p3 k hk).1 (p3 k hk).2.1
    simp [RL.blocks, hk]
  · intro i hi
    have hm : wb'.getD i 0 ∈ wb' := getD_mem wb' i (by rw [hlen]; exact hi)
    show (w1.setCell ⟨R.r, 3, none⟩ v').heap[wb'.getD i 0]? = _
    rw [hne _ (hwb _ hm).1]
    exact hw i hi
  · have hn := h.nd
    simp only [RL.blocks, List.nodup_cons, List.mem_append, Option.mem_toList, not_or, List.nodup_append] at hn ⊢
    obtain ⟨⟨n1, n2, n3, n4⟩, a1, ⟨b1, ⟨c1, d1, cd⟩, bc⟩, ab⟩ := hn
    refine ⟨⟨fun e => (hv'r _ e).1 rfl, n2, n3, fun e => (hwb _ e).1 rfl⟩, by cases v'.ownBlock <;> simp, ⟨b1, ⟨c1, nd, fun x hx y hy e => (hwb y hy).2.2 (by rw [← e]; exact hx)⟩, ?_⟩, ?_⟩
    · intro x hx y hy e
      rcases hy with hy | hy
      · exact bc x hx y (.inl hy) e
      · exact (hwb y hy).2.1 (by rw [← e]; exact hx)
    · intro x hx y hy e
      rcases hy with hy | hy | hy
      · exact (hv'r x hx).2.1 (by rw [e]; exact hy)
      · exact (hv'r x hx).2.2 (by rw [e]; exact hy)
      · exact hout x hx (by rw [e]; exact hy)

/-- The objects are replaced. -/
theorem RefIs.setObjs {w w1 : World} {R : RL} {m : Mo} (h : RefIs w R m) (v' : Value) (objs' : List Ob) (wb' : List Nat) (ha : ∀ k, k < w.heap.size → R.vo.ownBlock ≠ some k → w1.heap[k]? = w.heap[k]?)
    (ht : Touch R.blocks w w1) (ho : w1.ownsRow 0 89 3 v' objs'.length (obCells objs' wb')) (hw : ∀ i (hi : i < objs'.length), w1.heap[wb'.getD i 0]? = some (.cells (ints (objs'[i]).ws).toArray 3 (0, 0))) (hlen : wb'.length = objs'.length)
    (hl : v'.ownBlock = R.vo.ownBlock ∨ v'.ownBlock = none ∨ ∃ g, v'.ownBlock = some g ∧ w.heap.size ≤ g) (nd : wb'.Nodup) (hin : ∀ k, k ∈ wb' → k ∈ R.wb ∨ w.heap.size ≤ k) (hout : ∀ k, v'.ownBlock = some k → k ∉ wb') :
    RefTo w R { m with objs := objs' } (w1.setCell ⟨R.r, 3, none⟩ v') := by
  have hne : ∀ k, k ≠ R.r → (w1.setCell ⟨R.r, 3, none⟩ v').heap[k]? = w1.heap[k]? := fun k hk => heap_setCell_other w1 ⟨R.r, 3, none⟩ k v' hk
  refine ⟨{ R with vo := v', wb := wb' }, rfl, h.setObjsIs v' objs' wb' ha ho hw hlen hl nd hin hout, ?_, ?_⟩
  · intro k hk
    simp only [RL.blocks, List.mem_cons, List.mem_append, Option.mem_toList] at hk ⊢
    rcases hk with hk | hk | hk | hk | hk
    · exact .inl (.inl hk)
    · rcases hl with e1 | e1 | ⟨g, e1, e2⟩
      · rw [e1] at hk; exact .inl (.inr (.inl hk))
      · rw [e1] at hk; cases hk
      · rw [e1] at hk; cases hk; exact .inr e2
    · exact .inl (.inr (.inr (.inl hk)))
    · exact .inl (.inr (.inr (.inr (.inl hk))))
    · rcases hin k hk with e | e
      · exact .inl (.inr (.inr (.inr (.inr e))))
      · exact .inr e
  · exact ht.trans (B' := [R.r]) ⟨rfl, rfl, rfl, by simp, fun k _ hk => hne k (by simpa using hk)⟩ fun i hi => .inl (by simp at hi; simp [RL.blocks, hi])
end Go.Proofs.YtgegkcjllliifabDoor
