/-
  The walks of sizes and Sizes.
-/
import Derived.Test.YtgegkcjllliifabDoorHSays
namespace Go.Proofs.YtgegkcjllliifabDoor
open Go.RowKit

def askN (i : Nat) : Nat := [1, 2, 3, 4, 5, 6, 7, 8, 9, 12, 13, 16, 17, 32, 33, 64, 65].getD i 0
def hasN (i : Nat) : Nat := [1, 2, 3, 4, 6, 6, 8, 8, 12, 12, 16, 16, 32, 32, 64, 64, 96].getD i 0

theorem facts : ∀ i, i < 17 → ∀ b : Bool, sizeOf' (askN i) = hasN i ∧ (St.init 4 1).place (hasN i) b = some 0 ∧ 1 ≤ askN i ∧ askN i ≤ 128 ∧ 1 ≤ hasN i := by decide +kernel

def askCells : Array Value := #[.int .i64 1, .int .i64 2, .int .i64 3, .int .i64 4, .int .i64 5, .int .i64 6, .int .i64 7, .int .i64 8, .int .i64 9, .int .i64 12, .int .i64 13, .int .i64 16, .int .i64 17, .int .i64 32, .int .i64 33, .int .i64 64, .int .i64 65]
def hasCells : Array Value := #[.int .i64 1, .int .i64 2, .int .i64 3, .int .i64 4, .int .i64 6, .int .i64 6, .int .i64 8, .int .i64 8, .int .i64 12, .int .i64 12, .int .i64 16, .int .i64 16, .int .i64 32, .int .i64 32, .int .i64 64, .int .i64 64, .int .i64 96]
theorem ask_at (i : Nat) (h : i < 17) : askCells[i]? = some (.int .i64 (askN i)) :=
  match i, h with
  | 0, _ => rfl
  | 1, _ => rfl
  | 2, _ => rfl
  | 3, _ => rfl
  | 4, _ => rfl
  | 5, _ => rfl
  | 6, _ => rfl
  | 7, _ => rfl
  | 8, _ => rfl
  | 9, _ => rfl
  | 10, _ => rfl
  | 11, _ => rfl
  | 12, _ => rfl
  | 13, _ => rfl
  | 14, _ => rfl
  | 15, _ => rfl
  | 16, _ => rfl
  | k + 17, h => absurd h (by omega)
theorem has_at (i : Nat) (h : i < 17) : hasCells[i]? = some (.int .i64 (hasN i)) :=
  match i, h with
  | 0, _ => rfl
  | 1, _ => rfl
  | 2, _ => rfl
  | 3, _ => rfl
  | 4, _ => rfl
  | 5, _ => rfl
  | 6, _ => rfl
  | 7, _ => rfl
  | 8, _ => rfl
  | 9, _ => rfl
  | 10, _ => rfl
  | 11, _ => rfl
  | 12, _ => rfl
  | 13, _ => rfl
  | 14, _ => rfl
  | 15, _ => rfl
  | 16, _ => rfl
  | k + 17, h => absurd h (by omega)

/-- The two rows of the law, and the table, in the world behind them. -/
theorem two_rows (w : World) (hT : Tab w) : ∃ W1, (w.alloc (.cells askCells 3)).alloc (.cells hasCells 3) = W1 ∧ W1.heap.size = w.heap.size + 2 ∧ Below w.heap.size w W1 ∧ Tab W1 ∧
    (∀ i, i < 17 → W1.cell? ⟨w.heap.size, i, none⟩ = some (.int .i64 (askN i))) ∧ (∀ i, i < 17 → W1.cell? ⟨w.heap.size + 1, i, none⟩ = some (.int .i64 (hasN i))) := by
  have hB : Below w.heap.size w ((w.alloc (.cells askCells 3)).alloc (.cells hasCells 3)) := ((Below.refl _ _).alloc (Nat.le_refl _) _).alloc (by simp) _
  refine ⟨_, rfl, by simp, hB, ?_, ?_, ?_⟩
  · obtain ⟨t, fr, h⟩ := hT
    have h0 : 0 < w.heap.size := by
      rcases Nat.eq_zero_or_pos w.heap.size with e | e
      · rw [Array.getElem?_eq_none (by omega)] at h; cases h
      · exact e
    exact ⟨t, fr, by rw [hB.block 0 h0]; exact h⟩
  · intro i hi
    rw [cell_of_row _ _ i _ _ _ (heap_alloc2_old w _ _)]
    exact ask_at i hi
  · intro i hi
    rw [cell_of_row _ _ i _ _ _ (heap_alloc2_new w _ _)]
    exact has_at i hi


set_option maxHeartbeats 800000 in
theorem sizes_any (k : Int) (w : World) (hT : Tab w) (h1 : -9223372036854775808 ≤ k) (h2 : k ≤ 9223372036854775807) :
    Calls Tryd.prog 16 #[.int .i64 k] w fun e w' => e = .returned (.bool true) ∧ Below w.heap.size w w' := by
  obtain ⟨W1, e1, z1, b1, t1, ca, ch⟩ := two_rows w hT
  have Z1 := hide z1
  have CA := hide ca
  have CH := hide ch
  have T1 := hide t1
  have E1 := hide e1
  have B1 := hide b1
  clear hT e1 z1 ca ch t1 b1
  go_enter Tryd.func16, Tryd.ntmps16
  go_wp2_with fail
  rw [show ((w.alloc (.cells #[.int .i64 1, .int .i64 2, .int .i64 3, .int .i64 4, .int .i64 5, .int .i64 6, .int .i64 7, .int .i64 8, .int .i64 9, .int .i64 12, .int .i64 13, .int .i64 16, .int .i64 17, .int .i64 32, .int .i64 33, .int .i64 64, .int .i64 65] 3)).alloc (.cells #[.int .i64 1, .int .i64 2, .int .i64 3, .int .i64 4, .int .i64 6, .int .i64 6, .int .i64 8, .int .i64 8, .int .i64 12, .int .i64 12, .int .i64 16, .int .i64 16, .int .i64 32, .int .i64 32, .int .i64 64, .int .i64 64, .int .i64 96] 3)) = W1 from unhide E1]
  refine (saysPick_any k 17 W1 h1 h2 (by omega) (by omega)).mono ?_
  rintro e w' ⟨rfl, rfl⟩
  have hi := pickN_lt k 17 (by omega)
  generalize pickN k 17 = i at *
  have Q := hide (quiet_any 4 1 w' (by omega) (by omega) (by omega) (by omega))
  go_wp2_with fail
  refine (unhide Q).mono ?_
  rintro e w2 ⟨hb, rfl, hnew⟩
  obtain ⟨L, hd⟩ := Hd.new (unhide T1) (Below.refl _ _) hnew
  have a2 : w2.cell? ⟨w.heap.size, i, none⟩ = some (.int .i64 (askN i)) := by
    rw [hd.b.cell (p := ⟨w.heap.size, i, none⟩) (by have := unhide Z1; show w.heap.size < _; omega)]; exact unhide CA i hi
  have h2' : w2.cell? ⟨w.heap.size + 1, i, none⟩ = some (.int .i64 (hasN i)) := by
    rw [hd.b.cell (p := ⟨w.heap.size + 1, i, none⟩) (by have := unhide Z1; show w.heap.size + 1 < _; omega)]; exact unhide CH i hi
  have HD := hide hd
  clear hnew hd
  go_wp2_with fail
  generalize (bits BinOp.and IntKind.i64 k 1 == 1) = par
  obtain ⟨f1, f2, f3, f4, f5⟩ := facts i hi par
  refine (hd_alloc (unhide HD) (askN i) (hasN i) 0 par f3 (by show _ ≤ 4 * 32; omega) f1 f2).mono ?_
  rintro e w3 ⟨rfl, h3, l3, _⟩
  have h3' : w3.cell? ⟨w.heap.size + 1, i, none⟩ = some (.int .i64 (hasN i)) := by
    rw [h3.b.cell (p := ⟨w.heap.size + 1, i, none⟩) (by have := unhide Z1; show w.heap.size + 1 < _; omega)]; exact unhide CH i hi
  have hat : ((St.init 4 1).laid 0 (hasN i) par).at (1048576 + ((0 : Nat) : Int) * 8) = some 0 := by
    rw [l3.at (WF.init 4 1) f5, if_pos (by omega)]
  have CS := hSize_some L _ _ w3 h3.r h3.wf.ok 0 hat
  rw [h3.e, show (0 / 32 : Nat) = 0 from rfl, (l3.sizeNew f5).1] at CS
  have CC := hide CS
  have H3 := hide h3
  clear h3 l3 hat CS a2 h2' f1 f2 f3 f4 f5
  go_wp2_with fail
  refine (unhide CC).mono ?_
  rintro e w4 ⟨rfl, b4⟩
  have h4' : w4.cell? ⟨w.heap.size + 1, i, none⟩ = some (.int .i64 (hasN i)) := by
    rw [b4.cell (p := ⟨w.heap.size + 1, i, none⟩) (World.block_lt_of_cell? _ _ h3')]; exact h3'
  have HB := hide ((unhide H3).below b4).b
  clear h3' b4
  go_wp2
  go_ret
  exact ⟨rfl, (unhide B1).trans ((unhide HB).mono (by have := unhide Z1; omega))⟩

set_option maxHeartbeats 400000 in
theorem Sizes_any (a b c : Int) (w : World) (hT : Tab w) (h1 : -9223372036854775808 ≤ a) (h2 : a ≤ 9223372036854775807) :
    Calls Tryd.prog 8 #[.int .i64 a, .int .i64 b, .int .i64 c] w fun e w' => e = .returned (.bool true) ∧ Below w.heap.size w w' := by
  have C := hide (sizes_any a w hT h1 h2)
  clear hT
  go_enter Tryd.func8, Tryd.ntmps8
  go_wp2_with (go_at_call 16; refine (unhide C).mono ?_; rintro e w1 ⟨rfl, hb⟩)
  go_ret
  exact ⟨rfl, hb⟩
end Go.Proofs.YtgegkcjllliifabDoor
