/-
  The walks of the reference heap's Find and page.
-/
import Derived.Test.YtgegkcjllliifabDoorRefMem
namespace Go.Proofs.YtgegkcjllliifabDoor
open Go.RowKit

set_option maxHeartbeats 400000 in
theorem find_any (R : RL) (m : Mo) (a : Int) (w : World) (h : RefIs w R m) (bd : m.bd) :
    Calls Tryd.prog 69 #[.pointer (some ⟨R.r, 0, none⟩), .int .i64 a] w fun e w' => e = .returned (.int .i64 (m.find a)) ∧ Below w.heap.size w w' := by
  have HH := hide h
  have BD := hide bd
  have bo := bd.objs
  clear h bd
  go_enter Tryd.func69, Tryd.ntmps69
  go_wp2
  go_loopw [5] (fun i wr => ∃ k : Nat, k ≤ m.objs.length ∧ i = .int .i64 k ∧ Below w.heap.size w wr ∧ Hid (m.find a = findFrom a k (m.objs.drop k))) (fun i _ => m.objs.length - (intOf i).toNat)
  case atStart => exact ⟨0, by omega, rfl, Below.refl _ _, hide rfl⟩
  case round =>
    obtain ⟨k, hk, rfl, hB, HE⟩ := hrel
    have h' := (unhide HH).below hB
    by_cases hlt : k < m.objs.length
    · obtain ⟨g, cap, hv, hg, hc1, hc2, o1, o2, o3⟩ := h'.ob k hlt
      have fo := h'.cells.2.2.2.1
      rw [hv] at fo
      unfold maxLen at hc2
      have HS := hide (findFrom_step a m.objs k hlt)
      obtain ⟨b1, b2, b3⟩ := (unhide BD).pos k hlt
      generalize m.objs[k] = o at o1 o2 o3 HS b1 b2 b3
      obtain ⟨P, A, ws⟩ := o
      dsimp only at o1 o2 o3 b1 b2 b3
      clear h' hv
      by_cases c1 : P ≤ a
      · by_cases c2 : a < P + 8 * (ws.length : Int)
        · have HT : Hid (m.find a = k) := by
            rw [HE.out, HS.out, if_pos (by simp [Ob.has, c1, c2])]; exact rfl
          go_wp2
          go_ret
          exact ⟨ret_int HT.out.symm, hB.alloc hB.size _⟩
        · have HT : Hid (m.find a = findFrom a (k + 1) (m.objs.drop (k + 1))) := by
            rw [HE.out, HS.out, if_neg (by simp [Ob.has, c1]; omega)]; exact rfl
          go_wp2
          go_roundw
          case rel => exact ⟨k + 1, by omega, by go_num, hB.alloc hB.size _, HT⟩
          case measure => simp [intOf]; omega
      · have HT : Hid (m.find a = findFrom a (k + 1) (m.objs.drop (k + 1))) := by
          rw [HE.out, HS.out, if_neg (by simp [Ob.has, c1])]; exact rfl
        go_wp2
        go_roundw
        case rel => exact ⟨k + 1, by omega, by go_num, hB.alloc hB.size _, HT⟩
        case measure => simp [intOf]; omega
    · obtain ⟨ao, cap, hv, hc1, hc2⟩ := ownsRow_shape h'.ho
      have fo := h'.cells.2.2.2.1
      rw [hv] at fo
      clear h' hv
      have HT : Hid (m.find a = -1) := by rw [HE.out, findFrom_end a m.objs k (by omega)]; exact rfl
      go_wp2
      go_ret
      exact ⟨ret_int HT.out.symm, hB⟩

/-- The page of an address; -1: none of the heap's. -/
def Mo.page (m : Mo) (a : Int) : Int := if 1048576 ≤ a ∧ a < 1048576 + 256 * (m.pages : Int) then (a - 1048576) / 256 else -1

set_option maxHeartbeats 400000 in
theorem page_any (R : RL) (m : Mo) (a : Int) (w : World) (h : RefIs w R m) (bd : m.bd) :
    Calls Tryd.prog 95 #[.pointer (some ⟨R.r, 0, none⟩), .int .i64 a] w fun e w' => e = .returned (.int .i64 (m.page a)) ∧ w' = w := by
  have fp := h.cells.1
  have bp := bd.p2
  clear h bd
  go_enter Tryd.func95, Tryd.ntmps95
  go_wp2
  go_loop [5] (fun i => ∃ k : Nat, k ≤ m.pages ∧ i = .int .i64 k ∧ Hid (a < 1048576 ∨ 1048576 + 256 * (k : Int) ≤ a)) (fun i => m.pages - (intOf i).toNat)
  case atStart => exact ⟨0, by omega, rfl, hide (by omega)⟩
  case round =>
    obtain ⟨k, hk, rfl, HE⟩ := hrel
    by_cases hlt : k < m.pages
    · by_cases c1 : 1048576 + (k : Int) * 256 ≤ a
      · by_cases c2 : a < 1048576 + (k : Int) * 256 + 256
        · go_wp2
          go_ret
          exact ⟨ret_int (by unfold Mo.page; rw [if_pos (by omega)]; omega), rfl⟩
        · go_wp2
          go_round
          case rel => exact ⟨k + 1, by omega, by go_num, hide (by omega)⟩
          case measure => simp [intOf]; omega
      · go_wp2
        go_round
        case rel => exact ⟨k + 1, by omega, by go_num, hide (by have := HE.out; omega)⟩
        case measure => simp [intOf]; omega
    · go_wp2
      go_ret
      exact ⟨ret_int (by unfold Mo.page; rw [if_neg (by have := HE.out; omega)]), rfl⟩
end Go.Proofs.YtgegkcjllliifabDoor
