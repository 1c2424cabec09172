/-
  What a new heap of four pages makes of the sizes that are asked: reckoned by the kernel.
-/
import Derived.Test.YtehbcchebbodlabDoorSize
import Derived.Test.YtehbcchebbodlabDoorRoom
import Derived.Test.YtehbcchebbodlabDoorLay
import Derived.Test.YtehbcchebbodlabDoorFind
namespace Go.Proofs.YtehbcchebbodlabDoor
open Go.RowKit

def askN (i : Nat) : Nat := [1, 2, 3, 4, 5, 6, 7, 8, 9, 12, 13, 16, 17, 32, 33, 64, 65].getD i 0
def hasN (i : Nat) : Nat := [1, 2, 3, 4, 6, 6, 8, 8, 12, 12, 16, 16, 32, 32, 64, 64, 96].getD i 0

theorem facts : ∀ i, i < 17 → ∀ b : Bool, sizeOf' (askN i) = hasN i ∧ roomAt (St.init 4) (hasN i) b = 0 ∧ objAt (laid (St.init 4) 0 (hasN i) b) 0 = 0 ∧ (laid (St.init 4) 0 (hasN i) b).size 0 = hasN i ∧
    (∀ p, p < 4 → 0 ≤ (laid (St.init 4) 0 (hasN i) b).size p ∧ (laid (St.init 4) 0 (hasN i) b).size p ≤ 1536 ∧ 0 ≤ (laid (St.init 4) 0 (hasN i) b).back p ∧ (laid (St.init 4) 0 (hasN i) b).back p ≤ p) ∧
    1 ≤ askN i ∧ askN i ≤ 128 ∧ (hasN i + 31) / 32 ≤ 4 ∧ hasN i ≤ 128 := by decide +kernel

theorem laid_n (s : St) (w0 sz : Nat) (b : Bool) : (laid s w0 sz b).n = s.n := by
  show (layWd _ _ _).n = _
  rw [layWd_n, layPg_n]


def askCells : Array Value := #[.int .i64 1, .int .i64 2, .int .i64 3, .int .i64 4, .int .i64 5, .int .i64 6, .int .i64 7, .int .i64 8, .int .i64 9, .int .i64 12, .int .i64 13, .int .i64 16, .int .i64 17, .int .i64 32, .int .i64 33, .int .i64 64, .int .i64 65]
def hasCells : Array Value := #[.int .i64 1, .int .i64 2, .int .i64 3, .int .i64 4, .int .i64 6, .int .i64 6, .int .i64 8, .int .i64 8, .int .i64 12, .int .i64 12, .int .i64 16, .int .i64 16, .int .i64 32, .int .i64 32, .int .i64 64, .int .i64 64, .int .i64 96]
theorem ask_at (i : Nat) (h : i < 17) : askCells[i]? = some (.int .i64 (askN i)) :=
  match i, h with
  | 0, _ => rfl
  | 1, _ => rfl
  | 2, _ => rfl
  | 3, _ => rfl
  | 4, _ => rfl
  | 5, _ => rfl
  | 6, _ => rfl
  | 7, _ => rfl
  | 8, _ => rfl
  | 9, _ => rfl
  | 10, _ => rfl
  | 11, _ => rfl
  | 12, _ => rfl
  | 13, _ => rfl
  | 14, _ => rfl
  | 15, _ => rfl
  | 16, _ => rfl
  | k + 17, h => absurd h (by omega)
theorem has_at (i : Nat) (h : i < 17) : hasCells[i]? = some (.int .i64 (hasN i)) :=
  match i, h with
  | 0, _ => rfl
  | 1, _ => rfl
  | 2, _ => rfl
  | 3, _ => rfl
  | 4, _ => rfl
  | 5, _ => rfl
  | 6, _ => rfl
  | 7, _ => rfl
  | 8, _ => rfl
  | 9, _ => rfl
  | 10, _ => rfl
  | 11, _ => rfl
  | 12, _ => rfl
  | 13, _ => rfl
  | 14, _ => rfl
  | 15, _ => rfl
  | 16, _ => rfl
  | k + 17, h => absurd h (by omega)

/-- The two rows of the law, and the table, in the world behind them. -/
theorem two_rows (w : World) (hT : Tab w) : ∃ W1, (w.alloc (.cells askCells 3)).alloc (.cells hasCells 3) = W1 ∧ W1.heap.size = w.heap.size + 2 ∧ Below w.heap.size w W1 ∧ Tab W1 ∧
    (∀ i, i < 17 → W1.cell? ⟨w.heap.size, i, none⟩ = some (.int .i64 (askN i))) ∧ (∀ i, i < 17 → W1.cell? ⟨w.heap.size + 1, i, none⟩ = some (.int .i64 (hasN i))) := by
  have hB : Below w.heap.size w ((w.alloc (.cells askCells 3)).alloc (.cells hasCells 3)) := ((Below.refl _ _).alloc (Nat.le_refl _) _).alloc (by simp) _
  refine ⟨_, rfl, by simp, hB, ?_, ?_, ?_⟩
  · obtain ⟨t, fr, h⟩ := hT
    have h0 : 0 < w.heap.size := by
      rcases Nat.eq_zero_or_pos w.heap.size with e | e
      · rw [Array.getElem?_eq_none (by omega)] at h; cases h
      · exact e
    exact ⟨t, fr, by rw [hB.block 0 h0]; exact h⟩
  · intro i hi
    rw [cell_of_row _ _ i _ _ _ (heap_alloc2_old w _ _)]
    exact ask_at i hi
  · intro i hi
    rw [cell_of_row _ _ i _ _ _ (heap_alloc2_new w _ _)]
    exact has_at i hi

theorem Tab.pos {w : World} (h : Tab w) : 0 < w.heap.size := by
  obtain ⟨t, fr, h⟩ := h
  rcases Nat.eq_zero_or_pos w.heap.size with e | e
  · rw [Array.getElem?_eq_none (by omega)] at h; cases h
  · exact e
theorem Tab.below {w w' : World} (h : Tab w) (hB : Below w.heap.size w w') : Tab w' := by
  have h0 := h.pos
  obtain ⟨t, fr, h⟩ := h
  exact ⟨t, fr, by rw [hB.block 0 h0]; exact h⟩
end Go.Proofs.YtehbcchebbodlabDoor
