/-
  A script that came in, opened: its steps' numbers.
-/
import Derived.Test.YtgegkcjllliifabDoorLawUpTo
import Derived.Test.YtgegkcjllliifabDoorInst2
import Derived.ProofKit
import Derived.OpenShut
import Derived.Deep.Slices
namespace Go.Proofs.YtgegkcjllliifabDoor
open Go.ChangeShapes Go.WideShapes Go.ChangeAt Go.RowKit Go.Deep

theorem cellsOp : Tryd.prog.cellsOf 52 = 4 := by kernel_rfl
theorem cellsI : Tryd.prog.cellsOf 3 = 1 := by kernel_rfl

theorem four_cells {cs : List Value} (h : cs.length = 4) : ∃ a b c d, cs = [a, b, c, d] := by
  match cs, h with
  | [a, b, c, d], _ => exact ⟨a, b, c, d, rfl⟩
theorem four_read {α : Type} {xs : List α} (h : xs.length = 4) : ∃ a b c d, xs = [a, b, c, d] := by
  match xs, h with
  | [a, b, c, d], _ => exact ⟨a, b, c, d, rfl⟩

def fourOf (a b c d : Int) (j : Nat) : Int := if j = 0 then a else if j = 1 then b else if j = 2 then c else if j = 3 then d else 0

theorem step_of {H : Type} {enc : TypeId × Value → H} {w : World} {base : Nat} {spare : Nat → Bool} {held : Bool} {n : Nat} {cs : List Value} {x : DataW H × List MemPlace} (h : DataW.trod enc Tryd.prog w base spare held n 52 cs = some x) :
    ∃ a b c d, cs = [.int .i64 a, .int .i64 b, .int .i64 c, .int .i64 d] ∧ (-9223372036854775808 ≤ a ∧ a ≤ 9223372036854775807) ∧ (-9223372036854775808 ≤ b ∧ b ≤ 9223372036854775807) ∧ (-9223372036854775808 ≤ c ∧ c ≤ 9223372036854775807) ∧ (-9223372036854775808 ≤ d ∧ d ≤ 9223372036854775807) := by
  obtain ⟨xs, k, _, _, hcl, hxl, hf⟩ := DataW.trod_struct Tryd.underlying52 h
  rw [cellsOp] at hcl
  obtain ⟨v0, v1, v2, v3, rfl⟩ := four_cells hcl
  obtain ⟨y0, y1, y2, y3, rfl⟩ := four_read hxl
  have g0 : DataW.trod enc Tryd.prog w base spare held k 3 (([v0, v1, v2, v3].drop 0).take (Tryd.prog.cellsOf 3)) = some y0 := hf 0 ⟨"Kind", 3, 0, false, "", "", 0⟩ rfl
  have g1 : DataW.trod enc Tryd.prog w base spare held k 3 (([v0, v1, v2, v3].drop 1).take (Tryd.prog.cellsOf 3)) = some y1 := hf 1 ⟨"A", 3, 1, false, "", "", 8⟩ rfl
  have g2 : DataW.trod enc Tryd.prog w base spare held k 3 (([v0, v1, v2, v3].drop 2).take (Tryd.prog.cellsOf 3)) = some y2 := hf 2 ⟨"B", 3, 2, false, "", "", 16⟩ rfl
  have g3 : DataW.trod enc Tryd.prog w base spare held k 3 (([v0, v1, v2, v3].drop 3).take (Tryd.prog.cellsOf 3)) = some y3 := hf 3 ⟨"C", 3, 3, false, "", "", 24⟩ rfl
  rw [cellsI] at g0 g1 g2 g3
  obtain ⟨a, e0, _, w0⟩ := DataW.trod_int (x := y0) Tryd.underlying3 g0
  obtain ⟨b, e1, _, w1⟩ := DataW.trod_int (x := y1) Tryd.underlying3 g1
  obtain ⟨c, e2, _, w2⟩ := DataW.trod_int (x := y2) Tryd.underlying3 g2
  obtain ⟨d, e3, _, w3⟩ := DataW.trod_int (x := y3) Tryd.underlying3 g3
  simp at e0 e1 e2 e3
  subst e0 e1 e2 e3
  exact ⟨a, b, c, d, rfl, bounds_i64 w0, bounds_i64 w1, bounds_i64 w2, bounds_i64 w3⟩

/-- Whatever script came in: UpTo answers -1. -/
theorem minus_of {H : Type} {enc : TypeId × Value → H} {w : World} {v : Value} {d : DataW H} {ps : List MemPlace} {ao : Option Addr} {len cap : Nat} (T : Tab w) (hv : v = .slice ao len cap) (h : DataW.Trod enc Tryd.prog w 0 (fun _ => true) true 26 v d ps) (hlt : ∀ x ∈ ps, x.block < w.heap.size) : Minus w (.slice ao len cap) := by
  subst hv
  by_cases h0 : len = 0
  · subst h0
    exact upTo_empty w ao cap
  obtain ⟨fuel, hf⟩ := h
  rcases open_slice Tryd.underlying26 hf with ⟨hcs, _⟩ | ⟨a, len', cap', m, n, D, Pl, hcs, _, hl, hm, hmm, hx, hel⟩
  · simp [Value.cells] at hcs
    omega
  · simp [Value.cells] at hcs
    obtain ⟨rfl, rfl, rfl⟩ := hcs
    simp only [if_true] at hmm
    rw [hmm] at hel hx
    rw [cellsOp] at hel
    obtain ⟨b, off, spot⟩ := a
    have hspot : spot = none := by
      obtain ⟨cs', h1, h2⟩ := hel 0 (by omega)
      obtain ⟨_, hl4, hc⟩ := World.cells?_some h1
      have := hc 0 (by omega)
      rw [List.getElem?_eq_getElem (by omega)] at this
      simpa [Addr.add] using World.cell?_spot this
    subst hspot
    have each : ∀ i, i < len → ∃ q : Nat → Int, (∀ j, j < 4 → w.cell? ⟨b, off + i * 4 + j, none⟩ = some (.int .i64 (q j))) ∧ ∀ j, -9223372036854775808 ≤ q j ∧ q j ≤ 9223372036854775807 := by
      intro i hi
      obtain ⟨cs', h1, h2⟩ := hel i (by omega)
      obtain ⟨_, hl4, hc⟩ := World.cells?_some h1
      obtain ⟨x0, x1, x2, x3, rfl, b0, b1, b2, b3⟩ := step_of h2
      refine ⟨fourOf x0 x1 x2 x3, fun j hj => ?_, fun j => ?_⟩
      · have := hc j hj
        rw [add_plain, add_plain] at this
        rw [this]
        match j, hj with
        | 0, _ => rfl
        | 1, _ => rfl
        | 2, _ => rfl
        | 3, _ => rfl
      · unfold fourOf
        split
        · exact b0
        · split
          · exact b1
          · split
            · exact b2
            · split
              · exact b3
              · omega
    obtain ⟨f, hf'⟩ := choose_lt each
    have hb : b < w.heap.size := by
      simp only [Prod.mk.injEq] at hx
      refine hlt (.cell b off) ?_
      rw [hx.2]
      exact List.mem_append_left _ (MemPlace.mem_row.2 ⟨0, by rw [cellsOp]; omega, by simp⟩)
    unfold Minus
    exact upTo_any heapI w T (by have := T.pos; show 1 ≤ w.heap.size; omega) b off len cap f ⟨fun i j hi hj => (hf' i hi).1 j hj, fun i j hi => (hf' i hi).2 j, hb⟩
end Go.Proofs.YtgegkcjllliifabDoor
