/-
  What a store into one of a heap's blocks makes of it.
-/
import Derived.Test.YtehbcchebbodlabDoorMem
namespace Go.Proofs.YtehbcchebbodlabDoor
open Go.RowKit

def St.setPg (s : St) (p : Nat) (z : Int) (a : Bool) (b : Int) : St := { s with size := fun q => if q = p then z else s.size q, atom := fun q => if q = p then a else s.atom q, back := fun q => if q = p then b else s.back q }
def St.setWd (s : St) (k : Nat) (v : Int) : St := { s with word := fun q => if q = k then v else s.word q }
def St.setBg (s : St) (k : Nat) (v : Bool) : St := { s with beg := fun q => if q = k then v else s.beg q }

theorem set_other (w : World) (b o b' o' : Nat) (v : Value) (h : b' ≠ b ∨ o' ≠ o) : (w.setCell ⟨b, o, none⟩ v).cell? ⟨b', o', none⟩ = w.cell? ⟨b', o', none⟩ :=
  World.cell?_setCell_other _ _ _ _ (by intro e; simp only [Addr.mk.injEq, and_true] at e; omega)
theorem set_same {w : World} {b o : Nat} {u : Value} (v : Value) (h : w.cell? ⟨b, o, none⟩ = some u) : (w.setCell ⟨b, o, none⟩ v).cell? ⟨b, o, none⟩ = some v :=
  World.cell?_setCell_same _ _ _ h

theorem Keeps.set {L : Lay} {w0 w : World} (h : Keeps L w0 w) {b o : Nat} (v : Value) (hb : b = L.bp ∨ b = L.bw ∨ b = L.bb) : Keeps L w0 (w.setCell ⟨b, o, none⟩ v) :=
  h.trans ⟨rfl, rfl, rfl, by simp, fun k _ x y z => Below.heap_setCell w ⟨b, o, none⟩ v k (by show k ≠ b; omega)⟩

theorem Rep.setWd {w : World} {L : Lay} {s : St} (r : Rep w L s) (k : Nat) (v : Int) (hk : k < s.n * 32) : Rep (w.setCell ⟨L.bw, k, none⟩ (.int .i64 v)) L (s.setWd k v) := by
  have d1 := r.d1; have d2 := r.d2; have d3 := r.d3; have d4 := r.d4; have d5 := r.d5; have d6 := r.d6
  refine ⟨d1, d2, d3, d4, d5, d6, r.n1, r.n2, ?_, ?_, ?_, ?_, ?_, ?_, ?_, ?_, ?_, ?_, ?_⟩
  · rw [set_other _ _ _ _ _ _ (.inl d5)]; exact r.fp
  · rw [set_other _ _ _ _ _ _ (.inl d5)]; exact r.fw
  · rw [set_other _ _ _ _ _ _ (.inl d5)]; exact r.fb
  · intro p hp; rw [set_other _ _ _ _ _ _ (.inl d1)]; exact r.ps p hp
  · intro p hp; rw [set_other _ _ _ _ _ _ (.inl d1)]; exact r.pa p hp
  · intro p hp; rw [set_other _ _ _ _ _ _ (.inl d1)]; exact r.pk p hp
  · intro q; rw [World.frozen?_setCell]; exact r.pz q
  · intro q hq
    by_cases e : q = k
    · subst e; rw [set_same _ (r.ws q hk)]; simp [St.setWd]
    · rw [set_other _ _ _ _ _ _ (.inr e), r.ws q hq]; simp [St.setWd, e]
  · intro q; rw [World.frozen?_setCell]; exact r.wz q
  · intro q hq; rw [set_other _ _ _ _ _ _ (.inl (Ne.symm d3))]; exact r.bs q hq
  · intro q; rw [World.frozen?_setCell]; exact r.bz q

theorem Rep.setBg {w : World} {L : Lay} {s : St} (r : Rep w L s) (k : Nat) (v : Bool) (hk : k < s.n * 32) : Rep (w.setCell ⟨L.bb, k, none⟩ (.bool v)) L (s.setBg k v) := by
  have d1 := r.d1; have d2 := r.d2; have d3 := r.d3; have d4 := r.d4; have d5 := r.d5; have d6 := r.d6
  refine ⟨d1, d2, d3, d4, d5, d6, r.n1, r.n2, ?_, ?_, ?_, ?_, ?_, ?_, ?_, ?_, ?_, ?_, ?_⟩
  · rw [set_other _ _ _ _ _ _ (.inl d6)]; exact r.fp
  · rw [set_other _ _ _ _ _ _ (.inl d6)]; exact r.fw
  · rw [set_other _ _ _ _ _ _ (.inl d6)]; exact r.fb
  · intro p hp; rw [set_other _ _ _ _ _ _ (.inl d2)]; exact r.ps p hp
  · intro p hp; rw [set_other _ _ _ _ _ _ (.inl d2)]; exact r.pa p hp
  · intro p hp; rw [set_other _ _ _ _ _ _ (.inl d2)]; exact r.pk p hp
  · intro q; rw [World.frozen?_setCell]; exact r.pz q
  · intro q hq; rw [set_other _ _ _ _ _ _ (.inl d3)]; exact r.ws q hq
  · intro q; rw [World.frozen?_setCell]; exact r.wz q
  · intro q hq
    by_cases e : q = k
    · subst e; rw [set_same _ (r.bs q hk)]; simp [St.setBg]
    · rw [set_other _ _ _ _ _ _ (.inr e), r.bs q hq]; simp [St.setBg, e]
  · intro q; rw [World.frozen?_setCell]; exact r.bz q

theorem Rep.setPg {w : World} {L : Lay} {s : St} (r : Rep w L s) (k : Nat) (z : Int) (a : Bool) (b : Int) (hk : k < s.n) :
    Rep (((w.setCell ⟨L.bp, k * 3, none⟩ (.int .i64 z)).setCell ⟨L.bp, k * 3 + 1, none⟩ (.bool a)).setCell ⟨L.bp, k * 3 + 2, none⟩ (.int .i64 b)) L (s.setPg k z a b) := by
  have d1 := r.d1; have d2 := r.d2; have d3 := r.d3; have d4 := r.d4; have d5 := r.d5; have d6 := r.d6
  refine ⟨d1, d2, d3, d4, d5, d6, r.n1, r.n2, ?_, ?_, ?_, ?_, ?_, ?_, ?_, ?_, ?_, ?_, ?_⟩
  · rw [set_other _ _ _ _ _ _ (.inl d4), set_other _ _ _ _ _ _ (.inl d4), set_other _ _ _ _ _ _ (.inl d4)]; exact r.fp
  · rw [set_other _ _ _ _ _ _ (.inl d4), set_other _ _ _ _ _ _ (.inl d4), set_other _ _ _ _ _ _ (.inl d4)]; exact r.fw
  · rw [set_other _ _ _ _ _ _ (.inl d4), set_other _ _ _ _ _ _ (.inl d4), set_other _ _ _ _ _ _ (.inl d4)]; exact r.fb
  · intro p hp
    rw [set_other _ _ _ _ _ _ (.inr (by omega)), set_other _ _ _ _ _ _ (.inr (by omega))]
    by_cases e : p = k
    · subst e; rw [set_same _ (r.ps p hk)]; simp [St.setPg]
    · rw [set_other _ _ _ _ _ _ (.inr (by omega)), r.ps p hp]; simp [St.setPg, e]
  · intro p hp
    rw [set_other _ _ _ _ _ _ (.inr (by omega))]
    by_cases e : p = k
    · subst e; rw [set_same _ (by rw [set_other _ _ _ _ _ _ (.inr (by omega))]; exact r.pa p hk)]; simp [St.setPg]
    · rw [set_other _ _ _ _ _ _ (.inr (by omega)), set_other _ _ _ _ _ _ (.inr (by omega)), r.pa p hp]; simp [St.setPg, e]
  · intro p hp
    by_cases e : p = k
    · subst e; rw [set_same _ (by rw [set_other _ _ _ _ _ _ (.inr (by omega)), set_other _ _ _ _ _ _ (.inr (by omega))]; exact r.pk p hk)]; simp [St.setPg]
    · rw [set_other _ _ _ _ _ _ (.inr (by omega)), set_other _ _ _ _ _ _ (.inr (by omega)), set_other _ _ _ _ _ _ (.inr (by omega)), r.pk p hp]; simp [St.setPg, e]
  · intro q; rw [World.frozen?_setCell, World.frozen?_setCell, World.frozen?_setCell]; exact r.pz q
  · intro q hq; rw [set_other _ _ _ _ _ _ (.inl (Ne.symm d1)), set_other _ _ _ _ _ _ (.inl (Ne.symm d1)), set_other _ _ _ _ _ _ (.inl (Ne.symm d1))]; exact r.ws q hq
  · intro q; rw [World.frozen?_setCell, World.frozen?_setCell, World.frozen?_setCell]; exact r.wz q
  · intro q hq; rw [set_other _ _ _ _ _ _ (.inl (Ne.symm d2)), set_other _ _ _ _ _ _ (.inl (Ne.symm d2)), set_other _ _ _ _ _ _ (.inl (Ne.symm d2))]; exact r.bs q hq
  · intro q; rw [World.frozen?_setCell, World.frozen?_setCell, World.frozen?_setCell]; exact r.bz q

end Go.Proofs.YtehbcchebbodlabDoor
