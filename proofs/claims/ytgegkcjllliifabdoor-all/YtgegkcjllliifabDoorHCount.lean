/-
  The walk of Counts.
-/
import Derived.Test.YtgegkcjllliifabDoorHSweep
import Derived.Handy
namespace Go.Proofs.YtgegkcjllliifabDoor
open Go.RowKit

/-- How many of the first k are so. -/
def cntF (f : Nat → Bool) : Nat → Nat
  | 0 => 0
  | k + 1 => cntF f k + (if f k then 1 else 0)
theorem cntF_le (f : Nat → Bool) (k : Nat) : cntF f k ≤ k := by
  induction k with
  | zero => exact Nat.le_refl _
  | succ k ih => unfold cntF; split <;> omega
/-- The sizes of the objects that begin among the first k words. -/
def sumW (s : St) : Nat → Int
  | 0 => 0
  | k + 1 => sumW s k + (if s.beg k then s.size (k / 32) else 0)
theorem sumW_bd (s : St) (h : ∀ p, p < s.n → 0 ≤ s.size p ∧ s.size p ≤ 1536) (k : Nat) (hk : k ≤ s.n * 32) : 0 ≤ sumW s k ∧ sumW s k ≤ 1536 * (k : Int) := by
  induction k with
  | zero => exact ⟨by simp [sumW], by simp [sumW]⟩
  | succ k ih =>
    obtain ⟨a, b⟩ := ih (by omega)
    obtain ⟨c, d⟩ := h (k / 32) (by omega)
    unfold sumW
    split <;> omega

def ctObj (a b c d e f : Int) : Obj := .cells #[.int .i64 a, .int .i64 b, .int .i64 c, .int .i64 d, .int .i64 e, .int .i64 f] 38
theorem ctObj_cells {w : World} {g : Nat} {a b c d e f : Int} (h : w.heap[g]? = some (ctObj a b c d e f)) : w.cell? ⟨g, 0, none⟩ = some (.int .i64 a) ∧ w.cell? ⟨g, 1, none⟩ = some (.int .i64 b) ∧ w.cell? ⟨g, 2, none⟩ = some (.int .i64 c) ∧ w.cell? ⟨g, 3, none⟩ = some (.int .i64 d) ∧ w.cell? ⟨g, 4, none⟩ = some (.int .i64 e) ∧ w.cell? ⟨g, 5, none⟩ = some (.int .i64 f) ∧ ∀ k, w.frozen? ⟨g, k, none⟩ = false := by
  unfold ctObj at h
  refine ⟨?_, ?_, ?_, ?_, ?_, ?_, fun k => frozen_of_row w g k _ _ h⟩ <;> (rw [cell_of_row w g _ _ _ _ h]; rfl)

/-- What the loops keep: the counts' block, the result's block, the heap as it was. -/
structure Ct (w wr : World) (g : Nat) (a b c d e f : Int) : Prop where
  ct : wr.heap[g + 1]? = some (ctObj a b c d e f)
  rs : wr.heap[g]? = some (ctObj 0 0 0 0 0 0)
  below : Below g w wr
  le : w.heap.size ≤ g

theorem Ct.set {w wr : World} {g : Nat} {a b c d e f : Int} (h : Ct w wr g a b c d e f) (j : Nat) (v : Value) {a' b' c' d' e' f' : Int} (hv : (#[Value.int .i64 a, .int .i64 b, .int .i64 c, .int .i64 d, .int .i64 e, .int .i64 f].setIfInBounds j v) = #[.int .i64 a', .int .i64 b', .int .i64 c', .int .i64 d', .int .i64 e', .int .i64 f']) : Ct w (wr.setCell ⟨g + 1, j, none⟩ v) g a' b' c' d' e' f' := by
  refine ⟨?_, ?_, h.below.trans ⟨rfl, rfl, rfl, by simp, fun k hk => set_heap_other _ _ _ _ _ (by omega)⟩, h.le⟩
  · have := h.ct
    unfold ctObj at this ⊢
    rw [heap_setCell_same wr (g + 1) j _ _ v this, hv]
  · rw [set_heap_other _ _ _ _ _ (by omega)]; exact h.rs
theorem Ct.set0 {w wr : World} {g : Nat} {a b c d e f : Int} (h : Ct w wr g a b c d e f) (x : Int) : Ct w (wr.setCell ⟨g + 1, 0, none⟩ (.int .i64 x)) g x b c d e f := h.set 0 _ rfl
theorem Ct.set1 {w wr : World} {g : Nat} {a b c d e f : Int} (h : Ct w wr g a b c d e f) (x : Int) : Ct w (wr.setCell ⟨g + 1, 1, none⟩ (.int .i64 x)) g a x c d e f := h.set 1 _ rfl
theorem Ct.set4 {w wr : World} {g : Nat} {a b c d e f : Int} (h : Ct w wr g a b c d e f) (x : Int) : Ct w (wr.setCell ⟨g + 1, 4, none⟩ (.int .i64 x)) g a b c d x f := h.set 4 _ rfl
theorem Ct.set5 {w wr : World} {g : Nat} {a b c d e f : Int} (h : Ct w wr g a b c d e f) (x : Int) : Ct w (wr.setCell ⟨g + 1, 5, none⟩ (.int .i64 x)) g a b c d e x := h.set 5 _ rfl
theorem Ct.drew {w wr : World} {g : Nat} {a b c d e f : Int} (h : Ct w wr g a b c d e f) : Ct w wr.drew g a b c d e f := ⟨h.ct, h.rs, h.below.trans (Below.refl _ _).drew, h.le⟩
theorem Ct.alloc {w wr : World} {g : Nat} {a b c d e f : Int} (h : Ct w wr g a b c d e f) (o : Obj) : Ct w (wr.alloc o) g a b c d e f := by
  have l1 := heap_lt h.ct
  have l2 := heap_lt h.rs
  refine ⟨by rw [heap_alloc_old wr _ l1]; exact h.ct, by rw [heap_alloc_old wr _ l2]; exact h.rs, h.below.trans ((Below.refl _ _).alloc (by omega) _), h.le⟩

theorem ct_new (w : World) (c d : Int) : Ct w ((w.alloc (ctObj 0 0 0 0 0 0)).alloc (ctObj 0 0 c d 0 0)).drew w.heap.size 0 0 c d 0 0 :=
  ⟨heap_alloc2_new w _ _, heap_alloc2_old w _ _, (((Below.refl _ _).alloc (Nat.le_refl _) _).alloc (by simp) _).drew, Nat.le_refl _⟩

theorem below_set (w : World) (g o : Nat) (v : Value) : Below g w (w.setCell ⟨g, o, none⟩ v) := ⟨rfl, rfl, rfl, by simp, fun k hk => set_heap_other _ _ _ _ _ (by omega)⟩
theorem ct_fill {wr : World} {g : Nat} (h : wr.heap[g]? = some (ctObj 0 0 0 0 0 0)) (a b c d e f : Int) : ∃ W, ((((((wr.setCell ⟨g, 0, none⟩ (.int .i64 a)).setCell ⟨g, 1, none⟩ (.int .i64 b)).setCell ⟨g, 2, none⟩ (.int .i64 c)).setCell ⟨g, 3, none⟩ (.int .i64 d)).setCell ⟨g, 4, none⟩ (.int .i64 e)).setCell ⟨g, 5, none⟩ (.int .i64 f)) = W ∧ W.heap[g]? = some (ctObj a b c d e f) ∧ Below g wr W := by
  unfold ctObj at h
  have h1 := heap_setCell_same wr g 0 _ _ (.int .i64 a) h
  have h2 := heap_setCell_same _ g 1 _ _ (.int .i64 b) h1
  have h3 := heap_setCell_same _ g 2 _ _ (.int .i64 c) h2
  have h4 := heap_setCell_same _ g 3 _ _ (.int .i64 d) h3
  have h5 := heap_setCell_same _ g 4 _ _ (.int .i64 e) h4
  have h6 := heap_setCell_same _ g 5 _ _ (.int .i64 f) h5
  exact ⟨_, rfl, h6, (((((below_set wr g 0 _).trans (below_set _ g 1 _)).trans (below_set _ g 2 _)).trans (below_set _ g 3 _)).trans (below_set _ g 4 _)).trans (below_set _ g 5 _)⟩

theorem Rep.ct {w wr : World} {L : HL} {s : St} {g : Nat} {a b c d e f : Int} (R : Rep w L s) (h : Ct w wr g a b c d e f) (hg : g = w.heap.size) : Rep wr L s := R.below (by rw [← hg]; exact h.below)

set_option maxHeartbeats 3200000 in
theorem counts_any (L : HL) (s : St) (w : World) (R : Rep w L s) (hz : ∀ p, p < s.n → 0 ≤ s.size p ∧ s.size p ≤ 1536) :
    Calls Tryd.prog 43 #[.pointer (some ⟨L.h, 0, none⟩)] w fun e w' => e = .returned (.agg #[.int .i64 (cntF s.beg (s.n * 32)), .int .i64 (sumW s (s.n * 32)), .int .i64 s.colls, .int .i64 s.again, .int .i64 (cntF (fun p => s.size p != 0) s.n), .int .i64 (cntF s.uns s.n)]) ∧ Below w.heap.size w w' := by
  have n2 := R.n2
  have fc := R.cells.fc
  have fa := R.cells.fa
  have l1 := R.cells.l1
  have RR := hide R
  have HZ := hide hz
  have g1 := World.new_ne w ⟨L.h, 8, none⟩ fc
  have g2 := World.new_ne w ⟨L.h, 9, none⟩ fa
  clear R hz
  go_enter Tryd.func43, Tryd.ntmps43
  go_wp2
  go_region
  obtain ⟨W, hW, ct⟩ : ∃ W, ((w.alloc (ctObj 0 0 0 0 0 0)).alloc (ctObj 0 0 s.colls s.again 0 0)).drew = W ∧ Ct w W w.heap.size 0 0 s.colls s.again 0 0 := ⟨_, rfl, ct_new w _ _⟩
  unfold ctObj at hW
  rw [hW]
  have CT := hide ct
  have fb := ((unhide RR).ct ct rfl).cells.fb
  clear hW ct g1 g2 fc fa
  go_wp2
  go_loopw [22] (fun i wr => ∃ k : Nat, k ≤ s.n * 32 ∧ i = .int .i64 k ∧ Hid (Ct w wr w.heap.size (cntF s.beg k) (sumW s k) s.colls s.again 0 0)) (fun i _ => 2000 - (intOf i).toNat)
  case atStart => exact ⟨0, by omega, rfl, CT⟩
  case round =>
    obtain ⟨k, hk, rfl, C'⟩ := hrel
    clear fb
    have RC := hide ((unhide RR).ct (unhide C') rfl)
    by_cases hlt : k < s.n * 32
    · have bs := (unhide RC).cells.bs k hlt
      have hkp : k / 32 < s.n := by omega
      have ps := (unhide RC).cells.ps (k / 32) hkp
      have fp := (unhide RC).cells.fp
      have l2 := (unhide RC).cells.l2
      obtain ⟨f0, f1, _, _, _, _, fz⟩ := ctObj_cells (unhide C').ct
      obtain ⟨b, hb⟩ : ∃ b, s.beg k = b := ⟨_, rfl⟩
      have hsum := sumW_bd s (unhide HZ) k (by omega)
      have hsz := unhide HZ (k / 32) hkp
      have hcn := cntF_le s.beg k
      have e1 : Hid (cntF s.beg (k + 1) = cntF s.beg k + (if b then 1 else 0)) := by rw [← hb]; exact rfl
      have e2 : Hid (sumW s (k + 1) = sumW s k + (if b then s.size (k / 32) else 0)) := by rw [← hb]; exact rfl
      rw [hb] at bs
      clear hb
      obtain ⟨z, hz⟩ : ∃ z, s.size (k / 32) = z := ⟨_, rfl⟩
      rw [hz] at ps hsz e2
      clear hz
      have ne1 : L.h ≠ w.heap.size + 1 := by omega
      have ne2 : L.bp ≠ w.heap.size + 1 := by have := (unhide RR).cells.l2; omega
      cases b
      · go_wp2
        go_roundw
        case rel => exact ⟨k + 1, by omega, by go_num, hide (by rw [unhide e1, unhide e2]; simpa using unhide C')⟩
        case measure => simp [intOf]; omega
      · go_wp2
        go_region
        all_goals go_wp2
        all_goals go_roundw
        all_goals first
          | exact ⟨k + 1, by omega, by go_num, hide (by rw [unhide e1, unhide e2]; simpa using (((unhide C').set0 (cntF s.beg k + 1)).set1 (sumW s k + z)).drew)⟩
          | (simp [intOf]; omega)
    · obtain rfl : k = s.n * 32 := by omega
      have fp := (unhide RC).cells.fp
      generalize hq : cntF s.beg (s.n * 32) = no at *
      generalize hr : sumW s (s.n * 32) = nw at *
      go_wp2
      go_loopw [51] (fun i wr => ∃ k : Nat, k ≤ s.n ∧ i = .int .i64 k ∧ Hid (Ct w wr w.heap.size no nw s.colls s.again (cntF (fun p => s.size p != 0) k) (cntF s.uns k))) (fun i _ => 2000 - (intOf i).toNat)
      case atStart => exact ⟨0, by omega, rfl, C'⟩
      case round =>
        obtain ⟨k, hk, rfl, D'⟩ := hrel
        clear fp
        have RD := hide ((unhide RR).ct (unhide D') rfl)
        obtain ⟨f0, f1, f2, f3, f4, f5, fz⟩ := ctObj_cells (unhide D').ct
        by_cases hlt : k < s.n
        · have c := (unhide RD).cells
          have ps := c.ps k hlt
          have pa := c.pa k hlt
          have pk := c.pk k hlt
          have pu := c.pu k hlt
          have l2 := c.l2
          have lg := heap_lt (unhide D').ct
          clear c
          have c1 := cntF_le (fun p => s.size p != 0) k
          have c2 := cntF_le s.uns k
          obtain ⟨z, hz⟩ : ∃ z, s.size k = z := ⟨_, rfl⟩
          obtain ⟨u, hu⟩ : ∃ u, s.uns k = u := ⟨_, rfl⟩
          have e1 : Hid (cntF (fun p => s.size p != 0) (k + 1) = cntF (fun p => s.size p != 0) k + (if z != 0 then 1 else 0)) := by rw [← hz]; exact rfl
          have e2 : Hid (cntF s.uns (k + 1) = cntF s.uns k + (if u then 1 else 0)) := by rw [← hu]; exact rfl
          rw [hz] at ps
          rw [hu] at pu
          clear hz hu f0 f1 f2 f3
          generalize cntF (fun p => s.size p != 0) k = cu at *
          generalize cntF s.uns k = cn at *
          by_cases cz : z = 0
          · subst cz
            cases u
            · go_wp2
              go_roundw
              case rel => exact ⟨k + 1, by omega, by go_num, hide (by rw [unhide e1, unhide e2]; simpa using (unhide D').alloc _)⟩
              case measure => simp [intOf]; omega
            · go_wp2
              go_roundw
              case rel => exact ⟨k + 1, by omega, by go_num, hide (by rw [unhide e1, unhide e2]; simpa using ((unhide D').set5 (cn + 1)).alloc _)⟩
              case measure => simp [intOf]; omega
          · have cz' : (z != 0) = true := by simpa using cz
            rw [cz'] at e1
            clear cz
            cases u
            · go_wp2
              go_roundw
              case rel => exact ⟨k + 1, by omega, by go_num, hide (by rw [unhide e1, unhide e2]; simpa using ((unhide D').set4 (cu + 1)).alloc _)⟩
              case measure => simp [intOf]; omega
            · go_wp2
              go_roundw
              case rel => exact ⟨k + 1, by omega, by go_num, hide (by rw [unhide e1, unhide e2]; simpa using (((unhide D').set4 (cu + 1)).set5 (cn + 1)).alloc _)⟩
              case measure => simp [intOf]; omega
        · obtain rfl : k = s.n := by omega
          obtain ⟨h0, h1, h2, h3, h4, h5, hz⟩ := ctObj_cells (unhide D').rs
          have HB : Hid (Below w.heap.size w wr) := (unhide D').below
          obtain ⟨W6, hW6, hrs, hb6⟩ := ct_fill (unhide D').rs no nw s.colls s.again (cntF (fun p => s.size p != 0) s.n) (cntF s.uns s.n)
          have HB6 := hide ((unhide HB).trans (hb6.mono (unhide D').le))
          obtain ⟨q0, q1, q2, q3, q4, q5, _⟩ := ctObj_cells hrs
          have HW6 := hide hW6
          clear hW6 hrs hb6
          go_wp2
          rw [unhide HW6]
          refine bodyPost_ret (by simp [results, Tryd.results43, go_sem, q0, q1, q2, q3, q4, q5]; rfl) rfl ?_
          exact ⟨by rw [hq, hr], unhide HB6⟩
end Go.Proofs.YtgegkcjllliifabDoor
