/-
  The walk of Walk.
-/
import Derived.Test.YtgegkcjllliifabDoorHBlack
import Derived.Test.YtgegkcjllliifabDoorSRing
namespace Go.Proofs.YtgegkcjllliifabDoor
open Go.RowKit

/-- The first addresses of such as have been turned already, and the numbers of the others. -/
def half (l : List Nat) (i : Nat) : List Value := ((l.take i).map fun k => Value.int .i64 (adr k)) ++ nats (l.drop i)
theorem half_zero (l : List Nat) : half l 0 = nats l := by simp [half]
theorem half_all (l : List Nat) : half l l.length = l.map fun k => Value.int .i64 (adr k) := by simp [half, nats]
theorem half_length (l : List Nat) (i : Nat) (h : i ≤ l.length) : (half l i).length = l.length := by simp [half, nats]; omega
theorem half_at (l : List Nat) (i : Nat) (h : i < l.length) : (half l i)[i]? = some (.int .i64 (l[i] : Int)) := by
  unfold half
  rw [List.getElem?_append_right (by simp; omega)]
  simp [nats, h, Nat.min_eq_left (Nat.le_of_lt h)]
theorem half_set (l : List Nat) (i : Nat) (h : i < l.length) : (half l i).set i (.int .i64 (adr (l[i]))) = half l (i + 1) := by
  unfold half
  rw [List.set_append, if_neg (by simp; omega)]
  have e1 : l.drop i = l[i] :: l.drop (i + 1) := List.drop_eq_getElem_cons h
  have e2 : l.take (i + 1) = l.take i ++ [l[i]] := by rw [List.take_append_getElem]
  have e3 : i - ((l.take i).map fun k => Value.int .i64 (adr k)).length = 0 := by simp; omega
  rw [e1, e2, e3]
  simp only [nats, List.map_cons, List.set_cons_zero, List.map_append, List.map_nil, List.append_assoc, List.cons_append, List.nil_append]

set_option maxRecDepth 10000 in
set_option maxHeartbeats 1600000 in
theorem hWalk_any (L : HL) (s : St) (w : World) (R : Rep w L s) :
    Calls Tryd.prog 30 #[.pointer (some ⟨L.h, 0, none⟩)] w fun e w' => ∃ g, e = .returned (.slice (some ⟨g, 0, none⟩) (trues s.beg (s.n * 32)).length (trues s.beg (s.n * 32)).length) ∧ w.heap.size ≤ g ∧ w'.heap[g]? = some (.cells ((trues s.beg (s.n * 32)).map fun k => Value.int .i64 (adr k)).toArray 3 (0, 0)) ∧ Below w.heap.size w w' := by
  have fb := R.cells.fb
  have n2 := R.n2
  have C := hide (numbersOf_any L.bb (s.n * 32) s.beg w R.hb (by omega))
  have hl : ∀ k, k ∈ trues s.beg (s.n * 32) → k < 1536 := fun k hk => by have := (trues_mem _ _ _).1 hk; omega
  have hn : (trues s.beg (s.n * 32)).length ≤ 1536 := by rw [trues_length]; have := cntF_le s.beg (s.n * 32); omega
  generalize trues s.beg (s.n * 32) = l at *
  have HLT := hide hl
  clear R hl
  go_enter Tryd.func30, Tryd.ntmps30
  go_wp2_with fail
  refine (unhide C).mono ?_
  rintro e w1 ⟨g, rfl, hg, hc, hb⟩
  have HC := hide hc
  have HB := hide hb
  clear hc hb
  go_wp2
  go_loopw [12] (fun i wr => ∃ k : Nat, k ≤ l.length ∧ i = .int .i64 k ∧ Hid (wr.heap[g]? = some (.cells (half l k).toArray 3 (0, 0))) ∧ Hid (Below w.heap.size w wr)) (fun i _ => 3000 - (intOf i).toNat)
  case atStart => exact ⟨0, by omega, rfl, by rw [half_zero]; exact HC, HB⟩
  case round =>
    clear HC HB
    obtain ⟨k, hk, rfl, HC, HB⟩ := hrel
    by_cases hlt : k < l.length
    · have hx := unhide HLT _ (List.getElem_mem hlt)
      have c1 : wr.cell? ⟨g, k, none⟩ = some (.int .i64 (l[k] : Int)) := by
        rw [cell_of_row wr g k _ _ _ (unhide HC)]
        simp only [List.getElem?_toArray]
        exact half_at l k hlt
      have z1 := frozen_of_row wr g k _ _ (unhide HC)
      have e1 := heap_setCell_same wr g k _ _ (.int .i64 (adr (l[k]))) (unhide HC)
      have HC2 : Hid ((wr.setCell ⟨g, k, none⟩ (.int .i64 (adr (l[k])))).heap[g]? = some (.cells (half l (k + 1)).toArray 3 (0, 0))) := hide (by
        rw [e1, ← half_set l k hlt]
        simp)
      have HB2 : Hid (Below w.heap.size w (wr.setCell ⟨g, k, none⟩ (.int .i64 (adr (l[k]))))) := hide ((unhide HB).trans (below_setB _ _ _ _ _ hg))
      unfold adr at HC2 HB2
      clear e1
      generalize hq : l[k] = q at *
      have CA : Hid (∀ w1 : World, Calls Tryd.prog 37 #[.int .i64 q] w1 fun e w' => e = .returned (.int .i64 (1048576 + (q : Int) * 8)) ∧ w' = w1) := fun w1 => addressOf_any q w1 (by omega) (by omega)
      clear hq
      go_wp2_with (go_at_call 37; refine (unhide CA _).mono ?_; rintro e w' ⟨rfl, rfl⟩)
      go_roundw
      case rel => exact ⟨k + 1, by omega, by go_num, HC2, HB2⟩
      case measure => simp [intOf]; omega
    · obtain rfl : k = l.length := by omega
      rw [half_all] at HC
      go_wp2
      go_ret
      exact ⟨g, rfl, hg, unhide HC, unhide HB⟩
end Go.Proofs.YtgegkcjllliifabDoor
