/-
  The walk of the reference heap's names; rows of bools that are our own.
-/
import Derived.Test.YtgegkcjllliifabDoorRefLay
namespace Go.Proofs.YtgegkcjllliifabDoor
open Go.RowKit

theorem RefIs.touch {w w' : World} {R : RL} {m : Mo} {B : List Nat} (h : RefIs w R m) (t : Touch B w w') (hd : ∀ k, k ∈ B → k ∉ R.blocks) : RefIs w' R m :=
  h.agree fun k hk => t.block k (h.lt k hk) fun e => hd k e hk
/-- A word that names a page of the heap, but no object, makes it black. -/
def Mo.blacken (m : Mo) (x : Int) (bl : List Bool) : List Bool := if 0 ≤ m.page x ∧ m.find x < 0 then bl.set (m.page x).toNat true else bl
theorem blacken_length (m : Mo) (x : Int) (bl : List Bool) : (m.blacken x bl).length = bl.length := by
  unfold Mo.blacken; split <;> simp

set_option maxRecDepth 10000 in
set_option maxHeartbeats 400000 in
theorem names_any (R : RL) (m : Mo) (x : Int) (gb : Nat) (bl : List Bool) (w : World) (h : RefIs w R m) (bd : m.bd) (hb : BoolsAt w gb bl) (hl : bl.length = m.pages) :
    Calls Tryd.prog 91 #[.pointer (some ⟨R.r, 0, none⟩), .int .i64 x, .slice (some ⟨gb, 0, none⟩) m.pages m.pages] w fun e w' => e = .returned (.tuple #[]) ∧ BoolsAt w' gb (m.blacken x bl) ∧ Touch [gb] w w' := by
  have b2 := bd.p2
  have C1 : Hid (Calls Tryd.prog 95 #[.pointer (some ⟨R.r, 0, none⟩), .int .i64 x] w fun e w' => e = .returned (.int .i64 (m.page x)) ∧ w = w') := (page_any R m x w h bd).mono fun _ _ ⟨a, b⟩ => ⟨a, b.symm⟩
  have C2 := hide (find_any R m x w h bd)
  have HB := hide hb
  have HL := hide hl
  clear h bd hb hl
  rcases page_cases m x with hp | ⟨p, hp, p1, p2, p3⟩
  · have HF : Hid (m.blacken x bl = bl) := by unfold Mo.blacken; rw [if_neg (by omega)]; exact rfl
    rw [hp] at C1
    clear hp
    go_enter Tryd.func91, Tryd.ntmps91
    go_wp2_with (first | (go_at_call 95; refine (unhide C1).mono ?_; rintro e w' ⟨rfl, rfl⟩) | (go_at_call 69; refine (unhide C2).mono ?_; rintro e w2 ⟨rfl, hb2⟩))
    go_end0
    exact ⟨rfl, by rw [HF.out]; exact (unhide HB).below (by assumption), Touch.of_below (by assumption)⟩
  · rw [hp] at C1
    rcases find_cases m x with hf | ⟨i, hf, _⟩
    · have HF : Hid (m.blacken x bl = bl.set p true) := by unfold Mo.blacken; rw [if_pos (by omega), hp, Int.toNat_natCast]; exact rfl
      rw [hf] at C2
      have hpl : p < bl.length := by rw [unhide HL]; exact p1
      clear hp hf
      go_enter Tryd.func91, Tryd.ntmps91
      go_wp2_with (first | (go_at_call 95; refine (unhide C1).mono ?_; rintro e w' ⟨rfl, rfl⟩) | (go_at_call 69; refine (unhide C2).mono ?_; rintro e w2 ⟨rfl, hb2⟩; have cb := ((unhide HB).below hb2).cell p hpl; have zb := ((unhide HB).below hb2).frozen p))
      go_end0
      exact ⟨rfl, by rw [HF.out]; exact ((unhide HB).below (by assumption)).set p true, (Touch.of_below (by assumption)).set _ _ _ (.inl (by simp))⟩
    · have HF : Hid (m.blacken x bl = bl) := by unfold Mo.blacken; rw [if_neg (by omega)]; exact rfl
      rw [hf] at C2
      clear hp hf
      go_enter Tryd.func91, Tryd.ntmps91
      go_wp2_with (first | (go_at_call 95; refine (unhide C1).mono ?_; rintro e w' ⟨rfl, rfl⟩) | (go_at_call 69; refine (unhide C2).mono ?_; rintro e w2 ⟨rfl, hb2⟩))
      go_end0
      exact ⟨rfl, by rw [HF.out]; exact (unhide HB).below (by assumption), Touch.of_below (by assumption)⟩
end Go.Proofs.YtgegkcjllliifabDoor
