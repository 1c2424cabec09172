/-
  Appends, and what a call that writes leaves of the reference heap.
-/
import Derived.Test.YtgegkcjllliifabDoorRefMem
import Derived.ArgAppend
namespace Go.Proofs.YtgegkcjllliifabDoor
open Go.RowKit

/-- One slice of a heap is replaced by one that lies where it lay, or in new memory: no block twice. -/
theorem nd_swap {A B : List Nat} {o o' : Option Nat} {N : Nat} (h : (A ++ (o.toList ++ B)).Nodup) (hl : ∀ k, k ∈ A ++ (o.toList ++ B) → k < N) (ho : o' = o ∨ o' = none ∨ ∃ g, o' = some g ∧ N ≤ g) : (A ++ (o'.toList ++ B)).Nodup := by
  have hAB : (A ++ B).Nodup := by
    rw [List.nodup_append] at h ⊢
    obtain ⟨a, b, c⟩ := h
    rw [List.nodup_append] at b
    exact ⟨a, b.2.1, fun x hx y hy => c x hx y (by simp [hy])⟩
  rcases ho with rfl | rfl | ⟨g, rfl, hg⟩
  · exact h
  · simpa using hAB
  · have hlt : ∀ k, k ∈ A ++ B → k ≠ g := fun k hk e => by
      have := hl k (by simp only [List.mem_append] at hk ⊢; rcases hk with hk | hk <;> simp [hk])
      omega
    rw [List.nodup_append] at hAB ⊢
    refine ⟨hAB.1, ?_, ?_⟩
    · simp only [Option.toList_some, List.singleton_append, List.nodup_cons]
      exact ⟨fun hm => hlt g (by simp [hm]) rfl, hAB.2.1⟩
    · intro x hx y hy
      simp only [Option.toList_some, List.singleton_append, List.mem_cons] at hy
      rcases hy with rfl | hy
      · exact hlt x (by simp [hx])
      · exact hAB.2.2 x hx y hy

/-- The heap at R, behind a call: it holds m', in blocks of its own or new ones; no other block has turned. -/
def RefTo (w : World) (R : RL) (m' : Mo) (w' : World) : Prop :=
  ∃ R' : RL, R'.r = R.r ∧ RefIs w' R' m' ∧ (∀ k, k ∈ R'.blocks → k ∈ R.blocks ∨ w.heap.size ≤ k) ∧ Touch R.blocks w w'

theorem RefTo.same {w w' : World} {R : RL} {m : Mo} (h : RefIs w R m) (hB : Below w.heap.size w w') : RefTo w R m w' :=
  ⟨R, rfl, h.below hB, fun _ hk => .inl hk, Touch.of_below hB⟩

/-- The struct's cells, one of them turned. -/
theorem RefIs.field {w w1 : World} {R : RL} {m : Mo} (h : RefIs w R m) (he : w1.heap[R.r]? = w.heap[R.r]?) (j : Nat) (v : Value) :
    (w1.setCell ⟨R.r, j, none⟩ v).heap[R.r]? = some (.cells (#[.int .i64 m.pages, .int .i64 m.stack, .int .i64 m.trig, R.vo, R.vr, R.vb, .int .i64 m.since, .int .i64 m.runs, .int .i64 m.kept].setIfInBounds j v) 83 (0, 0)) :=
  heap_setCell_same w1 R.r j _ _ v (by rw [he]; exact h.hr)

theorem RefIs.parts {w : World} {R : RL} {m : Mo} (h : RefIs w R m) : (∀ k, R.vo.ownBlock = some k → k ≠ R.r ∧ R.vr.ownBlock ≠ some k ∧ R.vb.ownBlock ≠ some k ∧ k ∉ R.wb) ∧ (∀ k, R.vr.ownBlock = some k → k ≠ R.r ∧ R.vo.ownBlock ≠ some k ∧ R.vb.ownBlock ≠ some k ∧ k ∉ R.wb) ∧
    (∀ k, R.vb.ownBlock = some k → k ≠ R.r ∧ R.vo.ownBlock ≠ some k ∧ R.vr.ownBlock ≠ some k ∧ k ∉ R.wb) ∧ (∀ k, k ∈ R.wb → k ≠ R.r ∧ R.vo.ownBlock ≠ some k ∧ R.vr.ownBlock ≠ some k ∧ R.vb.ownBlock ≠ some k) ∧ R.wb.Nodup := by
  have hn := h.nd
  simp only [RL.blocks, List.nodup_cons, List.mem_append, Option.mem_toList, not_or, List.nodup_append] at hn
  obtain ⟨⟨n1, n2, n3, n4⟩, a1, ⟨b1, ⟨c1, d1, cd⟩, bc⟩, ab⟩ := hn
  refine ⟨fun k hk => ⟨?_, ?_, ?_, ?_⟩, fun k hk => ⟨?_, ?_, ?_, ?_⟩, fun k hk => ⟨?_, ?_, ?_, ?_⟩, fun k hk => ⟨?_, ?_, ?_, ?_⟩, d1⟩
  · rintro rfl; exact n1 hk
  · intro e; exact ab k hk k (.inl e) rfl
  · intro e; exact ab k hk k (.inr (.inl e)) rfl
  · intro e; exact ab k hk k (.inr (.inr e)) rfl
  · rintro rfl; exact n2 hk
  · intro e; exact ab k e k (.inl hk) rfl
  · intro e; exact bc k hk k (.inl e) rfl
  · intro e; exact bc k hk k (.inr e) rfl
  · rintro rfl; exact n3 hk
  · intro e; exact ab k e k (.inr (.inl hk)) rfl
  · intro e; exact bc k e k (.inl hk) rfl
  · intro e; exact cd k hk k e rfl
  · rintro rfl; exact n4 hk
  · intro e; exact ab k e k (.inr (.inr hk)) rfl
  · intro e; exact bc k e k (.inr hk) rfl
  · intro e; exact cd k e k hk rfl

/-- The roots are replaced. -/
theorem RefIs.setRoots {w w1 : World} {R : RL} {m : Mo} (h : RefIs w R m) (v' : Value) (roots' : List Int) (ha : ∀ k, k < w.heap.size → R.vr.ownBlock ≠ some k → w1.heap[k]? = w.heap[k]?)
    (ht : Touch R.blocks w w1) (ho : w1.ownsRow 0 3 1 v' roots'.length (ints roots')) (hl : v'.ownBlock = R.vr.ownBlock ∨ v'.ownBlock = none ∨ ∃ g, v'.ownBlock = some g ∧ w.heap.size ≤ g) :
    RefTo w R { m with roots := roots' } (w1.setCell ⟨R.r, 4, none⟩ v') := by
  obtain ⟨p1, p2, p3, p4, p5⟩ := h.parts
  have hrlt : R.r < w.heap.size := h.lt _ (by simp [RL.blocks])
  have hr1 : w1.heap[R.r]? = w.heap[R.r]? := ha R.r hrlt fun e => (p2 _ e).1 rfl
  have hne : ∀ k, k ≠ R.r → (w1.setCell ⟨R.r, 4, none⟩ v').heap[k]? = w1.heap[k]? := fun k hk => heap_setCell_other w1 ⟨R.r, 4, none⟩ k v' hk
  have keep : ∀ k, k ∈ R.blocks → k ≠ R.r → R.vr.ownBlock ≠ some k → (w1.setCell ⟨R.r, 4, none⟩ v').heap[k]? = w.heap[k]? := fun k hk e1 e2 => by rw [hne k e1, ha k (h.lt k hk) e2]
  have hv'r : ∀ k, v'.ownBlock = some k → k ≠ R.r := by
    intro k hk e
    rcases hl with e1 | e1 | ⟨g, e1, e2⟩
    · rw [e1] at hk; exact (p2 k hk).1 e
    · rw [e1] at hk; cases hk
    · rw [e1] at hk; cases hk; omega
  refine ⟨{ R with vr := v' }, rfl, ⟨?_, ?_, ?_, ?_, ?_, h.len, ?_⟩, ?_, ?_⟩
  · exact h.field hr1 4 v'
  · refine ownsRow_agree h.ho fun k hk => keep k ?_ (p1 k hk).1 (p1 k hk).2.1
    simp [RL.blocks, hk]
  · exact ownsRow_agree ho fun k hk => hne k (hv'r k hk)
  · refine ownsRow_agree h.hb fun k hk => keep k ?_ (p3 k hk).1 (p3 k hk).2.2.1
    simp [RL.blocks, hk]
  · intro i hi
    have hm : R.wAt i ∈ R.wb := getD_mem R.wb i (by rw [h.len]; exact hi)
    show (w1.setCell ⟨R.r, 4, none⟩ v').heap[R.wAt i]? = _
    rw [keep _ (R.wAt_mem i (by rw [h.len]; exact hi)) (p4 _ hm).1 (p4 _ hm).2.2.1]
    exact h.hw i hi
  · have := nd_swap (A := R.r :: R.vo.ownBlock.toList) (B := R.vb.ownBlock.toList ++ R.wb) (o := R.vr.ownBlock) (o' := v'.ownBlock) (N := w.heap.size) (by simpa [RL.blocks] using h.nd) (fun k hk => h.lt k (by simpa [RL.blocks] using hk)) hl
    simpa [RL.blocks] using this
  · intro k hk
    simp only [RL.blocks, List.mem_cons, List.mem_append, Option.mem_toList] at hk ⊢
    rcases hk with hk | hk | hk | hk | hk
    · exact .inl (.inl hk)
    · exact .inl (.inr (.inl hk))
    · rcases hl with e1 | e1 | ⟨g, e1, e2⟩
      · rw [e1] at hk; exact .inl (.inr (.inr (.inl hk)))
      · rw [e1] at hk; cases hk
      · rw [e1] at hk; cases hk; exact .inr e2
    · exact .inl (.inr (.inr (.inr (.inl hk))))
    · exact .inl (.inr (.inr (.inr (.inr hk))))
  · exact ht.trans (B' := [R.r]) ⟨rfl, rfl, rfl, by simp, fun k _ hk => hne k (by simpa using hk)⟩ fun i hi => .inl (by simp at hi; simp [RL.blocks, hi])
end Go.Proofs.YtgegkcjllliifabDoor
