/-
  The walks of sizes and Sizes.
-/
import Derived.Test.YtehbcchebbodlabDoorFacts
import Derived.Test.YtehbcchebbodlabDoorNew
import Derived.Test.YtehbcchebbodlabDoorAlloc
import Derived.Test.YtehbcchebbodlabDoorAsk
namespace Go.Proofs.YtehbcchebbodlabDoor
open Go.RowKit

/-- The first object of a new heap. -/
theorem alloc_new (i : Nat) (hi : i < 17) (b : Bool) (L : Lay) (w : World) (R : Rep w L (St.init 4)) (hT : Tab w) :
    Calls Tryd.prog 10 #[.pointer (some ⟨L.h, 0, none⟩), .int .i64 (askN i), .bool b] w fun e w' => e = .returned (.tuple #[.int .i64 1048576, .int .i64 0]) ∧ Rep w' L (laid (St.init 4) 0 (hasN i) b) ∧ Keeps L w w' := by
  obtain ⟨f1, f2, f3, f4, f5, f6, f7, f8, f9⟩ := facts i hi b
  exact alloc_ok L (St.init 4) (askN i) 0 (hasN i) b w R hT f6 f7 f1 f2 (by show 0 / 32 + _ ≤ 4; omega) (by show 0 + _ ≤ 4 * 32; omega)
theorem size_new (i : Nat) (hi : i < 17) (b : Bool) (L : Lay) (w : World) (R : Rep w L (laid (St.init 4) 0 (hasN i) b)) :
    Calls Tryd.prog 11 #[.pointer (some ⟨L.h, 0, none⟩), .int .i64 1048576] w fun e w' => e = .returned (.tuple #[.int .i64 (hasN i), .int .i64 0]) ∧ Below w.heap.size w w' := by
  obtain ⟨f1, f2, f3, f4, f5, f6, f7, f8, f9⟩ := facts i hi b
  have en : (laid (St.init 4) 0 (hasN i) b).n = 4 := laid_n _ _ _ _
  have := size_some L _ 0 1048576 w R (by omega) (by rw [en]; omega) (hide (by decide)) (by intro p hp; rw [en] at hp; exact f5 p hp) 0 (by rw [en]; omega) f3
  rw [show (0 / 32 : Nat) = 0 from rfl, f4] at this
  exact this

set_option maxHeartbeats 400000 in
theorem sizes_any (k : Int) (w : World) (hT : Tab w) (h1 : -9223372036854775808 ≤ k) (h2 : k ≤ 9223372036854775807) :
    Calls Tryd.prog 7 #[.int .i64 k] w fun e w' => e = .returned (.bool true) ∧ Below w.heap.size w w' := by
  obtain ⟨W1, e1, z1, b1, t1, ca, ch⟩ := two_rows w hT
  have Z1 := hide z1
  have CA := hide ca
  have CH := hide ch
  have T1 := hide t1
  have E1 := hide e1
  clear hT e1 z1 ca ch t1
  go_enter Tryd.func7, Tryd.ntmps7
  go_wp2_with fail
  rw [show ((w.alloc (.cells #[.int .i64 1, .int .i64 2, .int .i64 3, .int .i64 4, .int .i64 5, .int .i64 6, .int .i64 7, .int .i64 8, .int .i64 9, .int .i64 12, .int .i64 13, .int .i64 16, .int .i64 17, .int .i64 32, .int .i64 33, .int .i64 64, .int .i64 65] 3)).alloc (.cells #[.int .i64 1, .int .i64 2, .int .i64 3, .int .i64 4, .int .i64 6, .int .i64 6, .int .i64 8, .int .i64 8, .int .i64 12, .int .i64 12, .int .i64 16, .int .i64 16, .int .i64 32, .int .i64 32, .int .i64 64, .int .i64 64, .int .i64 96] 3)) = W1 from unhide E1]
  refine (pick_any k W1 h1 h2).mono ?_
  rintro e w' ⟨⟨i, hi, rfl⟩, rfl⟩
  go_wp2_with fail
  have Q := quiet_any 4 1 w' (by omega) (by omega) (by omega) (by omega)
  refine Q.mono ?_
  rintro e w2 ⟨L, rfl, R, q1, q2, q3, q4, b2⟩
  have R2 := hide R
  have a2 : w2.cell? ⟨w.heap.size, i, none⟩ = some (.int .i64 (askN i)) := by
    rw [b2.cell (p := ⟨w.heap.size, i, none⟩) (by have := unhide Z1; show w.heap.size < _; omega)]; exact unhide CA i hi
  have h2' : w2.cell? ⟨w.heap.size + 1, i, none⟩ = some (.int .i64 (hasN i)) := by
    rw [b2.cell (p := ⟨w.heap.size + 1, i, none⟩) (by have := unhide Z1; show w.heap.size + 1 < _; omega)]; exact unhide CH i hi
  clear R Q
  go_wp2_with fail
  generalize (bits BinOp.and IntKind.i64 k 1 == 1) = par
  refine (alloc_new i hi par L w2 (unhide R2) ((unhide T1).below b2)).mono ?_
  rintro e w3 ⟨rfl, R3, k3⟩
  have h3' : w3.cell? ⟨w.heap.size + 1, i, none⟩ = some (.int .i64 (hasN i)) := by
    have := unhide Z1
    have := b2.size
    rw [World.cell?_of_block (w := w2) (a := ⟨w.heap.size + 1, i, none⟩) (k3.block (w.heap.size + 1) (by omega) (by omega) (by omega) (by omega))]; exact h2'
  have RS := hide R3
  have K3 := hide k3
  clear R3 k3 a2 h2'
  go_wp2_with fail
  refine (size_new i hi par L w3 (unhide RS)).mono ?_
  rintro e w4 ⟨rfl, b4⟩
  have h4' : w4.cell? ⟨w.heap.size + 1, i, none⟩ = some (.int .i64 (hasN i)) := by
    rw [b4.cell (p := ⟨w.heap.size + 1, i, none⟩) (lt_of_cell h3')]; exact h3'
  clear h3'
  go_wp2
  go_ret
  refine ⟨rfl, ?_⟩
  have z := unhide Z1
  have s2 := b2.size
  have s3 := (unhide K3).size
  exact ((b1.trans (b2.mono (by omega))).trans ((unhide K3).below (by omega) (by omega) (by omega) (by omega))).trans (b4.mono (by omega))

set_option maxHeartbeats 400000 in
theorem Sizes_any (a b c : Int) (w : World) (hT : Tab w) (h1 : -9223372036854775808 ≤ a) (h2 : a ≤ 9223372036854775807) :
    Calls Tryd.prog 4 #[.int .i64 a, .int .i64 b, .int .i64 c] w fun e w' => e = .returned (.bool true) ∧ Below w.heap.size w w' := by
  have C := hide (sizes_any a w hT h1 h2)
  clear hT
  go_enter Tryd.func4, Tryd.ntmps4
  go_wp2_with (go_at_call 7; refine (unhide C).mono ?_; rintro e w1 ⟨rfl, hb⟩)
  go_ret
  exact ⟨rfl, hb⟩
end Go.Proofs.YtehbcchebbodlabDoor
