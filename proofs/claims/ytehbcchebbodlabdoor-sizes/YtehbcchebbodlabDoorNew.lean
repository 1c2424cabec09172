/-
  The walks of New and quiet.
-/
import Derived.Test.YtehbcchebbodlabDoorMem
import Derived.BigRegion
namespace Go.Proofs.YtehbcchebbodlabDoor
open Go.RowKit

theorem Tryd.info45 : (Tryd.prog.info? 45).map (fun i => (i.zero, i.size, i.bytes)) = some (some (.agg #[.int .i64 0, .bool false, .int .i64 0]), 3, 24) := by kernel_rfl
theorem Tryd.info3 : (Tryd.prog.info? 3).map (fun i => (i.zero, i.size, i.bytes)) = some (some (.int .i64 0), 1, 8) := by kernel_rfl
theorem Tryd.info4 : (Tryd.prog.info? 4).map (fun i => (i.zero, i.size, i.bytes)) = some (some (.bool false), 1, 1) := by kernel_rfl

theorem new_fin {w w' : World} {e : Ending} (n h bp bw bb : Nat) (n1 : 1 ≤ n) (n2 : n ≤ 48) (he : e = .returned (.tuple #[.pointer (some ⟨h, 0, none⟩), .int .i64 0]))
    (hp : w'.heap[bp]? = some (PB n)) (hw : w'.heap[bw]? = some (WB (n * 32))) (hb : w'.heap[bb]? = some (BB (n * 32))) (hh : w'.heap[h]? = some (HB n bp bw bb))
    (d : (bp ≠ bw ∧ bp ≠ bb ∧ bw ≠ bb ∧ h ≠ bp ∧ h ≠ bw ∧ h ≠ bb) ∧ w.heap.size ≤ h ∧ w.heap.size ≤ bp ∧ w.heap.size ≤ bw ∧ w.heap.size ≤ bb) (hB : Below w.heap.size w w') :
    ∃ L : Lay, e = .returned (.tuple #[.pointer (some ⟨L.h, 0, none⟩), .int .i64 0]) ∧ Rep w' L (St.init n) ∧
      w.heap.size ≤ L.h ∧ w.heap.size ≤ L.bp ∧ w.heap.size ≤ L.bw ∧ w.heap.size ≤ L.bb ∧ Below w.heap.size w w' :=
  ⟨⟨h, bp, bw, bb⟩, he, rep_init _ n n1 n2 hp hw hb hh d.1.1 d.1.2.1 d.1.2.2.1 d.1.2.2.2.1 d.1.2.2.2.2.1 d.1.2.2.2.2.2, d.2.1, d.2.2.1, d.2.2.2.1, d.2.2.2.2, hB⟩

theorem mk37 (n : Nat) (hn : n ≤ 48) (w : World) : (Instr.makeSlice 37 (.int .i64 n) (.int .i64 n)).run Tryd.prog w = .ok (.slice (some ⟨w.heap.size, 0, none⟩) n n) (w.alloc (PB n)) := by
  obtain ⟨i0, hi, hz0, hz1, hz2⟩ := info_parts Tryd.info45
  have := run_make (P := Tryd.prog) w 37 45 i0 _ Tryd.underlying37 hi hz0 .i64 .i64 n n (by omega) (by omega) (by rw [hz2]; omega) (by omega)
  rw [hz1] at this
  exact this
theorem mk34 (n : Nat) (hn : n ≤ 48) (w : World) : (Instr.makeSlice 34 (.int .i64 ((n : Int) * 32)) (.int .i64 ((n : Int) * 32))).run Tryd.prog w = .ok (.slice (some ⟨w.heap.size, 0, none⟩) (n * 32) (n * 32)) (w.alloc (WB (n * 32))) := by
  obtain ⟨i0, hi, hz0, hz1, hz2⟩ := info_parts Tryd.info3
  have := run_make (P := Tryd.prog) w 34 3 i0 _ Tryd.underlying34 hi hz0 .i64 .i64 ((n : Int) * 32) ((n : Int) * 32) (by omega) (by omega) (by rw [hz2]; omega) (by omega)
  rw [hz1] at this
  have e : ((n : Int) * 32).toNat = n * 32 := by omega
  rw [e, Nat.mul_one] at this
  exact this
theorem mk38 (n : Nat) (hn : n ≤ 48) (w : World) : (Instr.makeSlice 38 (.int .i64 ((n : Int) * 32)) (.int .i64 ((n : Int) * 32))).run Tryd.prog w = .ok (.slice (some ⟨w.heap.size, 0, none⟩) (n * 32) (n * 32)) (w.alloc (BB (n * 32))) := by
  obtain ⟨i0, hi, hz0, hz1, hz2⟩ := info_parts Tryd.info4
  have := run_make (P := Tryd.prog) w 38 4 i0 _ Tryd.underlying38 hi hz0 .i64 .i64 ((n : Int) * 32) ((n : Int) * 32) (by omega) (by omega) (by rw [hz2]; omega) (by omega)
  rw [hz1] at this
  have e : ((n : Int) * 32).toNat = n * 32 := by omega
  rw [e, Nat.mul_one] at this
  exact this

/-- Four new blocks, and where they lie. -/
theorem four (w : World) (A B C D : Obj) : ((((w.alloc A).alloc B).alloc C).alloc D).drew.heap[w.heap.size]? = some A ∧ ((((w.alloc A).alloc B).alloc C).alloc D).drew.heap[w.heap.size + 1]? = some B ∧
    ((((w.alloc A).alloc B).alloc C).alloc D).drew.heap[w.heap.size + 1 + 1]? = some C ∧ ((((w.alloc A).alloc B).alloc C).alloc D).drew.heap[w.heap.size + 1 + 1 + 1]? = some D ∧
    Below w.heap.size w ((((w.alloc A).alloc B).alloc C).alloc D).drew := by
  have e : ((((w.alloc A).alloc B).alloc C).alloc D).drew.heap = (((w.heap.push A).push B).push C).push D := rfl
  rw [e]
  refine ⟨?_, ?_, ?_, ?_, ?_⟩
  · rw [Array.getElem?_push, if_neg (by simp; omega), Array.getElem?_push, if_neg (by simp; omega), Array.getElem?_push, if_neg (by simp), Array.getElem?_push, if_pos rfl]
  · rw [Array.getElem?_push, if_neg (by simp), Array.getElem?_push, if_neg (by simp), Array.getElem?_push, if_pos (by simp)]
  · rw [Array.getElem?_push, if_neg (by simp), Array.getElem?_push, if_pos (by simp)]
  · rw [Array.getElem?_push, if_pos (by simp)]
  · exact ((((((Below.refl _ _).alloc (Nat.le_refl _) _).alloc (by simp) _).alloc (by simp; omega) _).alloc (by simp; omega) _)).drew

set_option maxHeartbeats 400000 in
theorem new_any (n : Nat) (r t : Int) (w : World) (h1 : 1 ≤ n) (h2 : n ≤ 48) (hr1 : 1 ≤ r) (hr2 : r ≤ 16) (ht1 : 0 ≤ t) (ht2 : t ≤ 4096) :
    Calls Tryd.prog 15 #[.int .i64 n, .int .i64 r, .int .i64 t] w fun e w' => ∃ L : Lay, e = .returned (.tuple #[.pointer (some ⟨L.h, 0, none⟩), .int .i64 0]) ∧ Rep w' L (St.init n) ∧
      w.heap.size ≤ L.h ∧ w.heap.size ≤ L.bp ∧ w.heap.size ≤ L.bw ∧ w.heap.size ≤ L.bb ∧ Below w.heap.size w w' := by
  have m37 := mk37 n h2
  have m34 := mk34 n h2
  have m38 := mk38 n h2
  go_enter Tryd.func15, Tryd.ntmps15
  go_wp2
  go_region
  all_goals go_wp2
  all_goals go_ret2
  · have f := four w (PB n) (WB (n * 32)) (BB (n * 32)) (HB n w.heap.size (w.heap.size + 1) (w.heap.size + 1 + 1))
    exact new_fin n (w.heap.size + 1 + 1 + 1) (w.heap.size) (w.heap.size + 1) (w.heap.size + 1 + 1) h1 h2 rfl f.1 f.2.1 f.2.2.1 f.2.2.2.1 (by omega) f.2.2.2.2
  · have f := four w (PB n) (BB (n * 32)) (WB (n * 32)) (HB n w.heap.size (w.heap.size + 1 + 1) (w.heap.size + 1))
    exact new_fin n (w.heap.size + 1 + 1 + 1) (w.heap.size) (w.heap.size + 1 + 1) (w.heap.size + 1) h1 h2 rfl f.1 f.2.2.1 f.2.1 f.2.2.2.1 (by omega) f.2.2.2.2
  · have f := four w (WB (n * 32)) (PB n) (BB (n * 32)) (HB n (w.heap.size + 1) w.heap.size (w.heap.size + 1 + 1))
    exact new_fin n (w.heap.size + 1 + 1 + 1) (w.heap.size + 1) (w.heap.size) (w.heap.size + 1 + 1) h1 h2 rfl f.2.1 f.1 f.2.2.1 f.2.2.2.1 (by omega) f.2.2.2.2
  · have f := four w (WB (n * 32)) (BB (n * 32)) (PB n) (HB n (w.heap.size + 1 + 1) w.heap.size (w.heap.size + 1))
    exact new_fin n (w.heap.size + 1 + 1 + 1) (w.heap.size + 1 + 1) (w.heap.size) (w.heap.size + 1) h1 h2 rfl f.2.2.1 f.1 f.2.1 f.2.2.2.1 (by omega) f.2.2.2.2
  · have f := four w (BB (n * 32)) (PB n) (WB (n * 32)) (HB n (w.heap.size + 1) (w.heap.size + 1 + 1) w.heap.size)
    exact new_fin n (w.heap.size + 1 + 1 + 1) (w.heap.size + 1) (w.heap.size + 1 + 1) (w.heap.size) h1 h2 rfl f.2.1 f.2.2.1 f.1 f.2.2.2.1 (by omega) f.2.2.2.2
  · have f := four w (BB (n * 32)) (WB (n * 32)) (PB n) (HB n (w.heap.size + 1 + 1) (w.heap.size + 1) w.heap.size)
    exact new_fin n (w.heap.size + 1 + 1 + 1) (w.heap.size + 1 + 1) (w.heap.size + 1) (w.heap.size) h1 h2 rfl f.2.2.1 f.2.1 f.1 f.2.2.2.1 (by omega) f.2.2.2.2

set_option maxHeartbeats 400000 in
theorem quiet_any (n : Nat) (r : Int) (w : World) (h1 : 1 ≤ n) (h2 : n ≤ 48) (hr1 : 1 ≤ r) (hr2 : r ≤ 16) :
    Calls Tryd.prog 8 #[.int .i64 n, .int .i64 r] w fun e w' => ∃ L : Lay, e = .returned (.pointer (some ⟨L.h, 0, none⟩)) ∧ Rep w' L (St.init n) ∧
      w.heap.size ≤ L.h ∧ w.heap.size ≤ L.bp ∧ w.heap.size ≤ L.bw ∧ w.heap.size ≤ L.bb ∧ Below w.heap.size w w' := by
  go_enter Tryd.func8, Tryd.ntmps8
  go_wp2_with fail
  refine (new_any n r 0 _ h1 h2 hr1 hr2 (by omega) (by omega)).mono ?_
  rintro e w' ⟨L, rfl, R⟩
  go_wp2
  go_ret
  exact ⟨L, rfl, R⟩
end Go.Proofs.YtehbcchebbodlabDoor
