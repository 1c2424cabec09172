/-
  A word of an object of the reference heap is turned.
-/
import Derived.Test.YtgegkcjllliifabDoorLawLaid
namespace Go.Proofs.YtgegkcjllliifabDoor
open Go.RowKit

theorem obCells_set : ∀ (os : List Ob) (bs : List Nat) (j : Nat) (o : Ob) (hj : j < os.length), o.pos = (os[j]).pos → o.atomic = (os[j]).atomic → o.ws.length = (os[j]).ws.length → obCells (os.set j o) bs = obCells os bs
  | [], _, j, _, hj, _, _, _ => absurd hj (by simp)
  | _ :: _, [], _, _, _, _, _, _ => by simp [obCells]
  | a :: os, b :: bs, 0, o, _, h1, h2, h3 => by
    simp only [List.getElem_cons_zero] at h1 h2 h3
    simp [obCells, h1, h2, h3]
  | a :: os, b :: bs, j + 1, o, hj, h1, h2, h3 => by
    simp only [List.getElem_cons_succ] at h1 h2 h3
    have := obCells_set os bs j o (by simpa using hj) h1 h2 h3
    simp [obCells, this]

theorem RefIs.storeWord {w : World} {R : RL} {m : Mo} (h : RefIs w R m) (j kk : Nat) (hj : j < m.objs.length) (y : Int) :
    RefTo w R { m with objs := m.objs.set j { m.objs[j] with ws := (m.objs[j]).ws.set kk y } } (w.setCell ⟨R.wAt j, kk, none⟩ (.int .i64 y)) := by
  obtain ⟨p1, p2, p3, p4, p5⟩ := h.parts
  have hm : R.wAt j ∈ R.wb := getD_mem R.wb j (by rw [h.len]; exact hj)
  have keep : ∀ k, k ≠ R.wAt j → (w.setCell ⟨R.wAt j, kk, none⟩ (.int .i64 y)).heap[k]? = w.heap[k]? := fun k hk => heap_setCell_other w ⟨R.wAt j, kk, none⟩ k _ hk
  refine ⟨R, rfl, ⟨?_, ?_, ?_, ?_, ?_, ?_, h.nd⟩, fun k hk => .inl hk, ⟨rfl, rfl, rfl, by simp, fun k _ hk => keep k fun e => hk (by rw [e]; exact R.wAt_mem j (by rw [h.len]; exact hj))⟩⟩
  · rw [keep R.r fun e => (p4 _ hm).1 e.symm]; exact h.hr
  · show World.ownsRow _ _ _ _ _ (m.objs.set j _).length (obCells (m.objs.set j _) R.wb)
    rw [List.length_set, obCells_set m.objs R.wb j { m.objs[j] with ws := (m.objs[j]).ws.set kk y } hj rfl rfl (by simp)]
    exact ownsRow_agree h.ho fun k hk => keep k fun e => (p4 _ hm).2.1 (by rw [← e]; exact hk)
  · exact ownsRow_agree h.hrt fun k hk => keep k fun e => (p4 _ hm).2.2.1 (by rw [← e]; exact hk)
  · exact ownsRow_agree h.hb fun k hk => keep k fun e => (p4 _ hm).2.2.2 (by rw [← e]; exact hk)
  · intro i hi
    have hi' : i < m.objs.length := by simpa using hi
    by_cases e : i = j
    · subst e
      rw [heap_setCell_same w (R.wAt i) kk _ _ (.int .i64 y) (h.hw i hi')]
      simp [ints, List.map_set]
    · have hne : R.wAt i ≠ R.wAt j := by
        intro e2
        unfold RL.wAt at e2
        have li : i < R.wb.length := by rw [h.len]; exact hi'
        have lj : j < R.wb.length := by rw [h.len]; exact hj
        rw [List.getD_eq_getElem?_getD, List.getD_eq_getElem?_getD, List.getElem?_eq_getElem li, List.getElem?_eq_getElem lj] at e2
        exact e ((List.getElem_inj p5).1 e2)
      rw [keep _ hne, h.hw i hi']
      show some (Obj.cells (ints (m.objs[i]).ws).toArray _ _) = some (Obj.cells (ints ((m.objs.set j _)[i]).ws).toArray _ _)
      rw [List.getElem_set_ne (fun e2 => e e2.symm)]
  · show R.wb.length = (m.objs.set j _).length
    rw [List.length_set]; exact h.len
end Go.Proofs.YtgegkcjllliifabDoor
