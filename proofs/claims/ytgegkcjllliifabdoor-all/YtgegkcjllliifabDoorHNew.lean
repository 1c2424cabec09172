/-
  The walks of New and quiet.
-/
import Derived.Test.YtgegkcjllliifabDoorHSmall
namespace Go.Proofs.YtgegkcjllliifabDoor
open Go.RowKit

theorem Tryd.infoPage : (Tryd.prog.info? 63).map (fun i => (i.zero, i.size, i.bytes)) = some (some (.agg #[.int .i64 0, .bool false, .int .i64 0, .bool false]), 4, 32) := by kernel_rfl

/-- The blocks that New lays. -/
def PB (n : Nat) : Obj := .cells (madeCells #[.int .i64 0, .bool false, .int .i64 0, .bool false] (n * 4)) 63
def WB (n : Nat) : Obj := .cells (madeCells #[.int .i64 0] n) 3
def BB (n : Nat) : Obj := .cells (madeCells #[.bool false] n) 4
def HB (n r t bp bw bb bk : Nat) : Obj := .cells #[.slice (some ⟨bp, 0, none⟩) n n, .slice (some ⟨bw, 0, none⟩) (n * 32) (n * 32), .slice (some ⟨bb, 0, none⟩) (n * 32) (n * 32), .slice (some ⟨bk, 0, none⟩) n n, .slice none 0 0, .int .i64 r, .int .i64 t, .int .i64 0, .int .i64 0, .int .i64 0] 59

theorem made_pages (s : St) (n : Nat) (h : ∀ p, p < n → s.size p = 0 ∧ s.atom p = false ∧ s.back p = 0 ∧ s.uns p = false) : madeCells #[.int .i64 0, .bool false, .int .i64 0, .bool false] (n * 4) = fcells (n * 4) (pcell s) := by
  apply Array.ext_getElem?
  intro i
  by_cases hi : i < n * 4
  · obtain ⟨h1, h2, h3, h4⟩ := h (i / 4) (by omega)
    rw [fcells_at _ _ _ hi]
    have hm : i % 4 = 0 ∨ i % 4 = 1 ∨ i % 4 = 2 ∨ i % 4 = 3 := by omega
    rcases hm with e | e | e | e <;> simp [madeCells, hi, pcell, e, h1, h2, h3, h4]
  · rw [Array.getElem?_eq_none (by simp [size_madeCells]; omega), Array.getElem?_eq_none (by simp [fcells]; omega)]

theorem rep_init {w : World} (n r t h bp bw bb bk : Nat) (n1 : 1 ≤ n) (n2 : n ≤ 48) (r1 : 1 ≤ r) (r2 : r ≤ 16) (t2 : t ≤ 4096) (hp : w.heap[bp]? = some (PB n)) (hw : w.heap[bw]? = some (WB (n * 32))) (hb : w.heap[bb]? = some (BB (n * 32))) (hk : w.heap[bk]? = some (BB n))
    (hh : w.heap[h]? = some (HB n r t bp bw bb bk)) (nd : [h, bp, bw, bb, bk].Nodup) : Rep w ⟨h, bp, bw, bb, bk, .slice none 0 0⟩ (St.init n r t) := by
  refine ⟨hh, ?_, ?_, ?_, ?_, World.ownsRow_nil _ _ _ _, by simpa [HL.blocks, Value.ownBlock] using nd, n1, n2, by simp [St.init], r1, r2, t2, fun _ => Nat.zero_le _⟩
  · rw [hp, PB, made_pages (St.init n r t) n fun _ _ => ⟨rfl, rfl, rfl, rfl⟩]; rfl
  · rw [hw, WB, fcells_made]; rfl
  · rw [hb, BB, fcells_made]; rfl
  · rw [hk, BB, fcells_made]; rfl

def IsNew (w : World) (s : St) (w' : World) (h : Nat) : Prop := ∃ L : HL, L.h = h ∧ Rep w' L s ∧ (∀ k, k ∈ L.blocks → w.heap.size ≤ k) ∧ Below w.heap.size w w'

theorem new_fin {w w' : World} {e : Ending} (n r t h bp bw bb bk : Nat) (n1 : 1 ≤ n) (n2 : n ≤ 48) (r1 : 1 ≤ r) (r2 : r ≤ 16) (t2 : t ≤ 4096) (he : e = .returned (.tuple #[.pointer (some ⟨h, 0, none⟩), .int .i64 0]))
    (hp : w'.heap[bp]? = some (PB n)) (hw : w'.heap[bw]? = some (WB (n * 32))) (hb : w'.heap[bb]? = some (BB (n * 32))) (hk : w'.heap[bk]? = some (BB n)) (hh : w'.heap[h]? = some (HB n r t bp bw bb bk))
    (d : (h ≠ bp ∧ h ≠ bw ∧ h ≠ bb ∧ h ≠ bk ∧ bp ≠ bw ∧ bp ≠ bb ∧ bp ≠ bk ∧ bw ≠ bb ∧ bw ≠ bk ∧ bb ≠ bk) ∧ w.heap.size ≤ h ∧ w.heap.size ≤ bp ∧ w.heap.size ≤ bw ∧ w.heap.size ≤ bb ∧ w.heap.size ≤ bk) (hB : Below w.heap.size w w') :
    ∃ h, e = .returned (.tuple #[.pointer (some ⟨h, 0, none⟩), .int .i64 0]) ∧ IsNew w (St.init n r t) w' h := by
  refine ⟨h, he, ⟨h, bp, bw, bb, bk, .slice none 0 0⟩, rfl, rep_init n r t h bp bw bb bk n1 n2 r1 r2 t2 hp hw hb hk hh ?_, ?_, hB⟩
  · simp; omega
  · intro k hk
    simp [HL.blocks, Value.ownBlock] at hk
    omega

theorem mkPages (n : Nat) (hn : n ≤ 48) (w : World) : (Instr.makeSlice 56 (.int .i64 n) (.int .i64 n)).run Tryd.prog w = .ok (.slice (some ⟨w.heap.size, 0, none⟩) n n) (w.alloc (PB n)) := by
  obtain ⟨i0, hi, hz0, hz1, hz2⟩ := info_parts Tryd.infoPage
  have := run_make (P := Tryd.prog) w 56 63 i0 _ Tryd.underlying56 hi hz0 .i64 .i64 n n (by omega) (by omega) (by rw [hz2]; omega) (by omega)
  rw [hz1] at this
  exact this
theorem mkWords (n : Nat) (hn : n ≤ 48) (w : World) : (Instr.makeSlice 41 (.int .i64 ((n : Int) * 32)) (.int .i64 ((n : Int) * 32))).run Tryd.prog w = .ok (.slice (some ⟨w.heap.size, 0, none⟩) (n * 32) (n * 32)) (w.alloc (WB (n * 32))) := by
  have := mkInts (n * 32) (by omega) w
  have e : ((n * 32 : Nat) : Int) = (n : Int) * 32 := by omega
  rw [e] at this
  exact this
theorem mkBegins (n : Nat) (hn : n ≤ 48) (w : World) : (Instr.makeSlice 57 (.int .i64 ((n : Int) * 32)) (.int .i64 ((n : Int) * 32))).run Tryd.prog w = .ok (.slice (some ⟨w.heap.size, 0, none⟩) (n * 32) (n * 32)) (w.alloc (BB (n * 32))) := by
  have := mkBools (n * 32) (by omega) w
  have e : ((n * 32 : Nat) : Int) = (n : Int) * 32 := by omega
  rw [e] at this
  exact this
theorem mkBlack (n : Nat) (hn : n ≤ 48) (w : World) : (Instr.makeSlice 57 (.int .i64 n) (.int .i64 n)).run Tryd.prog w = .ok (.slice (some ⟨w.heap.size, 0, none⟩) n n) (w.alloc (BB n)) := mkBools n (by omega) w

/-- Five new blocks, and where they lie. -/
theorem five (w : World) (A B C D E : Obj) : (((((w.alloc A).alloc B).alloc C).alloc D).alloc E).drew.heap[w.heap.size]? = some A ∧ (((((w.alloc A).alloc B).alloc C).alloc D).alloc E).drew.heap[w.heap.size + 1]? = some B ∧
    (((((w.alloc A).alloc B).alloc C).alloc D).alloc E).drew.heap[w.heap.size + 1 + 1]? = some C ∧ (((((w.alloc A).alloc B).alloc C).alloc D).alloc E).drew.heap[w.heap.size + 1 + 1 + 1]? = some D ∧ (((((w.alloc A).alloc B).alloc C).alloc D).alloc E).drew.heap[w.heap.size + 1 + 1 + 1 + 1]? = some E ∧
    Below w.heap.size w (((((w.alloc A).alloc B).alloc C).alloc D).alloc E).drew := by
  have e : (((((w.alloc A).alloc B).alloc C).alloc D).alloc E).drew.heap = ((((w.heap.push A).push B).push C).push D).push E := rfl
  rw [e]
  refine ⟨?_, ?_, ?_, ?_, ?_, ?_⟩
  · rw [Array.getElem?_push, if_neg (by simp only [Array.size_push]; omega), Array.getElem?_push, if_neg (by simp only [Array.size_push]; omega), Array.getElem?_push, if_neg (by simp only [Array.size_push]; omega), Array.getElem?_push, if_neg (by simp only [Array.size_push]; omega), Array.getElem?_push, if_pos rfl]
  · rw [Array.getElem?_push, if_neg (by simp only [Array.size_push]; omega), Array.getElem?_push, if_neg (by simp only [Array.size_push]; omega), Array.getElem?_push, if_neg (by simp only [Array.size_push]; omega), Array.getElem?_push, if_pos (by simp only [Array.size_push])]
  · rw [Array.getElem?_push, if_neg (by simp only [Array.size_push]; omega), Array.getElem?_push, if_neg (by simp only [Array.size_push]; omega), Array.getElem?_push, if_pos (by simp only [Array.size_push])]
  · rw [Array.getElem?_push, if_neg (by simp only [Array.size_push]; omega), Array.getElem?_push, if_pos (by simp only [Array.size_push])]
  · rw [Array.getElem?_push, if_pos (by simp only [Array.size_push])]
  · exact (((((((Below.refl _ _).alloc (Nat.le_refl _) _).alloc (by simp) _).alloc (by simp; omega) _).alloc (by simp; omega) _).alloc (by simp; omega) _)).drew

set_option maxHeartbeats 1600000 in
theorem new_any (n r t : Nat) (w : World) (h1 : 1 ≤ n) (h2 : n ≤ 48) (hr1 : 1 ≤ r) (hr2 : r ≤ 16) (ht2 : t ≤ 4096) :
    Calls Tryd.prog 33 #[.int .i64 n, .int .i64 r, .int .i64 t] w fun e w' => ∃ h, e = .returned (.tuple #[.pointer (some ⟨h, 0, none⟩), .int .i64 0]) ∧ IsNew w (St.init n r t) w' h := by
  have m1 := mkPages n h2
  have m2 := mkWords n h2
  have m3 := mkBegins n h2
  have m4 := mkBlack n h2
  go_enter Tryd.func33, Tryd.ntmps33
  go_wp2
  go_region
  all_goals go_wp2
  all_goals go_ret2
  · have f := five w (PB n) (WB (n * 32)) (BB (n * 32)) (BB n) (HB n r t w.heap.size (w.heap.size + 1) (w.heap.size + 1 + 1) (w.heap.size + 1 + 1 + 1))
    exact new_fin n r t (w.heap.size + 1 + 1 + 1 + 1) w.heap.size (w.heap.size + 1) (w.heap.size + 1 + 1) (w.heap.size + 1 + 1 + 1) h1 h2 hr1 hr2 ht2 rfl f.1 f.2.1 f.2.2.1 f.2.2.2.1 f.2.2.2.2.1 (by omega) f.2.2.2.2.2
  · have f := five w (PB n) (WB (n * 32)) (BB n) (BB (n * 32)) (HB n r t w.heap.size (w.heap.size + 1) (w.heap.size + 1 + 1 + 1) (w.heap.size + 1 + 1))
    exact new_fin n r t (w.heap.size + 1 + 1 + 1 + 1) w.heap.size (w.heap.size + 1) (w.heap.size + 1 + 1 + 1) (w.heap.size + 1 + 1) h1 h2 hr1 hr2 ht2 rfl f.1 f.2.1 f.2.2.2.1 f.2.2.1 f.2.2.2.2.1 (by omega) f.2.2.2.2.2
  · have f := five w (PB n) (BB (n * 32)) (WB (n * 32)) (BB n) (HB n r t w.heap.size (w.heap.size + 1 + 1) (w.heap.size + 1) (w.heap.size + 1 + 1 + 1))
    exact new_fin n r t (w.heap.size + 1 + 1 + 1 + 1) w.heap.size (w.heap.size + 1 + 1) (w.heap.size + 1) (w.heap.size + 1 + 1 + 1) h1 h2 hr1 hr2 ht2 rfl f.1 f.2.2.1 f.2.1 f.2.2.2.1 f.2.2.2.2.1 (by omega) f.2.2.2.2.2
  · have f := five w (PB n) (BB (n * 32)) (BB n) (WB (n * 32)) (HB n r t w.heap.size (w.heap.size + 1 + 1 + 1) (w.heap.size + 1) (w.heap.size + 1 + 1))
    exact new_fin n r t (w.heap.size + 1 + 1 + 1 + 1) w.heap.size (w.heap.size + 1 + 1 + 1) (w.heap.size + 1) (w.heap.size + 1 + 1) h1 h2 hr1 hr2 ht2 rfl f.1 f.2.2.2.1 f.2.1 f.2.2.1 f.2.2.2.2.1 (by omega) f.2.2.2.2.2
  · have f := five w (PB n) (BB n) (WB (n * 32)) (BB (n * 32)) (HB n r t w.heap.size (w.heap.size + 1 + 1) (w.heap.size + 1 + 1 + 1) (w.heap.size + 1))
    exact new_fin n r t (w.heap.size + 1 + 1 + 1 + 1) w.heap.size (w.heap.size + 1 + 1) (w.heap.size + 1 + 1 + 1) (w.heap.size + 1) h1 h2 hr1 hr2 ht2 rfl f.1 f.2.2.1 f.2.2.2.1 f.2.1 f.2.2.2.2.1 (by omega) f.2.2.2.2.2
  · have f := five w (PB n) (BB n) (BB (n * 32)) (WB (n * 32)) (HB n r t w.heap.size (w.heap.size + 1 + 1 + 1) (w.heap.size + 1 + 1) (w.heap.size + 1))
    exact new_fin n r t (w.heap.size + 1 + 1 + 1 + 1) w.heap.size (w.heap.size + 1 + 1 + 1) (w.heap.size + 1 + 1) (w.heap.size + 1) h1 h2 hr1 hr2 ht2 rfl f.1 f.2.2.2.1 f.2.2.1 f.2.1 f.2.2.2.2.1 (by omega) f.2.2.2.2.2
  · have f := five w (WB (n * 32)) (PB n) (BB (n * 32)) (BB n) (HB n r t (w.heap.size + 1) w.heap.size (w.heap.size + 1 + 1) (w.heap.size + 1 + 1 + 1))
    exact new_fin n r t (w.heap.size + 1 + 1 + 1 + 1) (w.heap.size + 1) w.heap.size (w.heap.size + 1 + 1) (w.heap.size + 1 + 1 + 1) h1 h2 hr1 hr2 ht2 rfl f.2.1 f.1 f.2.2.1 f.2.2.2.1 f.2.2.2.2.1 (by omega) f.2.2.2.2.2
  · have f := five w (WB (n * 32)) (PB n) (BB n) (BB (n * 32)) (HB n r t (w.heap.size + 1) w.heap.size (w.heap.size + 1 + 1 + 1) (w.heap.size + 1 + 1))
    exact new_fin n r t (w.heap.size + 1 + 1 + 1 + 1) (w.heap.size + 1) w.heap.size (w.heap.size + 1 + 1 + 1) (w.heap.size + 1 + 1) h1 h2 hr1 hr2 ht2 rfl f.2.1 f.1 f.2.2.2.1 f.2.2.1 f.2.2.2.2.1 (by omega) f.2.2.2.2.2
  · have f := five w (WB (n * 32)) (BB (n * 32)) (PB n) (BB n) (HB n r t (w.heap.size + 1 + 1) w.heap.size (w.heap.size + 1) (w.heap.size + 1 + 1 + 1))
    exact new_fin n r t (w.heap.size + 1 + 1 + 1 + 1) (w.heap.size + 1 + 1) w.heap.size (w.heap.size + 1) (w.heap.size + 1 + 1 + 1) h1 h2 hr1 hr2 ht2 rfl f.2.2.1 f.1 f.2.1 f.2.2.2.1 f.2.2.2.2.1 (by omega) f.2.2.2.2.2
  · have f := five w (WB (n * 32)) (BB (n * 32)) (BB n) (PB n) (HB n r t (w.heap.size + 1 + 1 + 1) w.heap.size (w.heap.size + 1) (w.heap.size + 1 + 1))
    exact new_fin n r t (w.heap.size + 1 + 1 + 1 + 1) (w.heap.size + 1 + 1 + 1) w.heap.size (w.heap.size + 1) (w.heap.size + 1 + 1) h1 h2 hr1 hr2 ht2 rfl f.2.2.2.1 f.1 f.2.1 f.2.2.1 f.2.2.2.2.1 (by omega) f.2.2.2.2.2
  · have f := five w (WB (n * 32)) (BB n) (PB n) (BB (n * 32)) (HB n r t (w.heap.size + 1 + 1) w.heap.size (w.heap.size + 1 + 1 + 1) (w.heap.size + 1))
    exact new_fin n r t (w.heap.size + 1 + 1 + 1 + 1) (w.heap.size + 1 + 1) w.heap.size (w.heap.size + 1 + 1 + 1) (w.heap.size + 1) h1 h2 hr1 hr2 ht2 rfl f.2.2.1 f.1 f.2.2.2.1 f.2.1 f.2.2.2.2.1 (by omega) f.2.2.2.2.2
  · have f := five w (WB (n * 32)) (BB n) (BB (n * 32)) (PB n) (HB n r t (w.heap.size + 1 + 1 + 1) w.heap.size (w.heap.size + 1 + 1) (w.heap.size + 1))
    exact new_fin n r t (w.heap.size + 1 + 1 + 1 + 1) (w.heap.size + 1 + 1 + 1) w.heap.size (w.heap.size + 1 + 1) (w.heap.size + 1) h1 h2 hr1 hr2 ht2 rfl f.2.2.2.1 f.1 f.2.2.1 f.2.1 f.2.2.2.2.1 (by omega) f.2.2.2.2.2
  · have f := five w (BB (n * 32)) (PB n) (WB (n * 32)) (BB n) (HB n r t (w.heap.size + 1) (w.heap.size + 1 + 1) w.heap.size (w.heap.size + 1 + 1 + 1))
    exact new_fin n r t (w.heap.size + 1 + 1 + 1 + 1) (w.heap.size + 1) (w.heap.size + 1 + 1) w.heap.size (w.heap.size + 1 + 1 + 1) h1 h2 hr1 hr2 ht2 rfl f.2.1 f.2.2.1 f.1 f.2.2.2.1 f.2.2.2.2.1 (by omega) f.2.2.2.2.2
  · have f := five w (BB (n * 32)) (PB n) (BB n) (WB (n * 32)) (HB n r t (w.heap.size + 1) (w.heap.size + 1 + 1 + 1) w.heap.size (w.heap.size + 1 + 1))
    exact new_fin n r t (w.heap.size + 1 + 1 + 1 + 1) (w.heap.size + 1) (w.heap.size + 1 + 1 + 1) w.heap.size (w.heap.size + 1 + 1) h1 h2 hr1 hr2 ht2 rfl f.2.1 f.2.2.2.1 f.1 f.2.2.1 f.2.2.2.2.1 (by omega) f.2.2.2.2.2
  · have f := five w (BB (n * 32)) (WB (n * 32)) (PB n) (BB n) (HB n r t (w.heap.size + 1 + 1) (w.heap.size + 1) w.heap.size (w.heap.size + 1 + 1 + 1))
    exact new_fin n r t (w.heap.size + 1 + 1 + 1 + 1) (w.heap.size + 1 + 1) (w.heap.size + 1) w.heap.size (w.heap.size + 1 + 1 + 1) h1 h2 hr1 hr2 ht2 rfl f.2.2.1 f.2.1 f.1 f.2.2.2.1 f.2.2.2.2.1 (by omega) f.2.2.2.2.2
  · have f := five w (BB (n * 32)) (WB (n * 32)) (BB n) (PB n) (HB n r t (w.heap.size + 1 + 1 + 1) (w.heap.size + 1) w.heap.size (w.heap.size + 1 + 1))
    exact new_fin n r t (w.heap.size + 1 + 1 + 1 + 1) (w.heap.size + 1 + 1 + 1) (w.heap.size + 1) w.heap.size (w.heap.size + 1 + 1) h1 h2 hr1 hr2 ht2 rfl f.2.2.2.1 f.2.1 f.1 f.2.2.1 f.2.2.2.2.1 (by omega) f.2.2.2.2.2
  · have f := five w (BB (n * 32)) (BB n) (PB n) (WB (n * 32)) (HB n r t (w.heap.size + 1 + 1) (w.heap.size + 1 + 1 + 1) w.heap.size (w.heap.size + 1))
    exact new_fin n r t (w.heap.size + 1 + 1 + 1 + 1) (w.heap.size + 1 + 1) (w.heap.size + 1 + 1 + 1) w.heap.size (w.heap.size + 1) h1 h2 hr1 hr2 ht2 rfl f.2.2.1 f.2.2.2.1 f.1 f.2.1 f.2.2.2.2.1 (by omega) f.2.2.2.2.2
  · have f := five w (BB (n * 32)) (BB n) (WB (n * 32)) (PB n) (HB n r t (w.heap.size + 1 + 1 + 1) (w.heap.size + 1 + 1) w.heap.size (w.heap.size + 1))
    exact new_fin n r t (w.heap.size + 1 + 1 + 1 + 1) (w.heap.size + 1 + 1 + 1) (w.heap.size + 1 + 1) w.heap.size (w.heap.size + 1) h1 h2 hr1 hr2 ht2 rfl f.2.2.2.1 f.2.2.1 f.1 f.2.1 f.2.2.2.2.1 (by omega) f.2.2.2.2.2
  · have f := five w (BB n) (PB n) (WB (n * 32)) (BB (n * 32)) (HB n r t (w.heap.size + 1) (w.heap.size + 1 + 1) (w.heap.size + 1 + 1 + 1) w.heap.size)
    exact new_fin n r t (w.heap.size + 1 + 1 + 1 + 1) (w.heap.size + 1) (w.heap.size + 1 + 1) (w.heap.size + 1 + 1 + 1) w.heap.size h1 h2 hr1 hr2 ht2 rfl f.2.1 f.2.2.1 f.2.2.2.1 f.1 f.2.2.2.2.1 (by omega) f.2.2.2.2.2
  · have f := five w (BB n) (PB n) (BB (n * 32)) (WB (n * 32)) (HB n r t (w.heap.size + 1) (w.heap.size + 1 + 1 + 1) (w.heap.size + 1 + 1) w.heap.size)
    exact new_fin n r t (w.heap.size + 1 + 1 + 1 + 1) (w.heap.size + 1) (w.heap.size + 1 + 1 + 1) (w.heap.size + 1 + 1) w.heap.size h1 h2 hr1 hr2 ht2 rfl f.2.1 f.2.2.2.1 f.2.2.1 f.1 f.2.2.2.2.1 (by omega) f.2.2.2.2.2
  · have f := five w (BB n) (WB (n * 32)) (PB n) (BB (n * 32)) (HB n r t (w.heap.size + 1 + 1) (w.heap.size + 1) (w.heap.size + 1 + 1 + 1) w.heap.size)
    exact new_fin n r t (w.heap.size + 1 + 1 + 1 + 1) (w.heap.size + 1 + 1) (w.heap.size + 1) (w.heap.size + 1 + 1 + 1) w.heap.size h1 h2 hr1 hr2 ht2 rfl f.2.2.1 f.2.1 f.2.2.2.1 f.1 f.2.2.2.2.1 (by omega) f.2.2.2.2.2
  · have f := five w (BB n) (WB (n * 32)) (BB (n * 32)) (PB n) (HB n r t (w.heap.size + 1 + 1 + 1) (w.heap.size + 1) (w.heap.size + 1 + 1) w.heap.size)
    exact new_fin n r t (w.heap.size + 1 + 1 + 1 + 1) (w.heap.size + 1 + 1 + 1) (w.heap.size + 1) (w.heap.size + 1 + 1) w.heap.size h1 h2 hr1 hr2 ht2 rfl f.2.2.2.1 f.2.1 f.2.2.1 f.1 f.2.2.2.2.1 (by omega) f.2.2.2.2.2
  · have f := five w (BB n) (BB (n * 32)) (PB n) (WB (n * 32)) (HB n r t (w.heap.size + 1 + 1) (w.heap.size + 1 + 1 + 1) (w.heap.size + 1) w.heap.size)
    exact new_fin n r t (w.heap.size + 1 + 1 + 1 + 1) (w.heap.size + 1 + 1) (w.heap.size + 1 + 1 + 1) (w.heap.size + 1) w.heap.size h1 h2 hr1 hr2 ht2 rfl f.2.2.1 f.2.2.2.1 f.2.1 f.1 f.2.2.2.2.1 (by omega) f.2.2.2.2.2
  · have f := five w (BB n) (BB (n * 32)) (WB (n * 32)) (PB n) (HB n r t (w.heap.size + 1 + 1 + 1) (w.heap.size + 1 + 1) (w.heap.size + 1) w.heap.size)
    exact new_fin n r t (w.heap.size + 1 + 1 + 1 + 1) (w.heap.size + 1 + 1 + 1) (w.heap.size + 1 + 1) (w.heap.size + 1) w.heap.size h1 h2 hr1 hr2 ht2 rfl f.2.2.2.1 f.2.2.1 f.2.1 f.1 f.2.2.2.2.1 (by omega) f.2.2.2.2.2

set_option maxHeartbeats 400000 in
theorem quiet_any (n r : Nat) (w : World) (h1 : 1 ≤ n) (h2 : n ≤ 48) (hr1 : 1 ≤ r) (hr2 : r ≤ 16) :
    Calls Tryd.prog 18 #[.int .i64 n, .int .i64 r] w fun e w' => ∃ h, e = .returned (.pointer (some ⟨h, 0, none⟩)) ∧ IsNew w (St.init n r) w' h := by
  go_enter Tryd.func18, Tryd.ntmps18
  go_wp2_with fail
  refine (new_any n r 0 _ h1 h2 hr1 hr2 (by omega)).mono ?_
  rintro e w' ⟨h, rfl, R⟩
  go_wp2
  go_ret
  exact ⟨h, rfl, R⟩
end Go.Proofs.YtgegkcjllliifabDoor
