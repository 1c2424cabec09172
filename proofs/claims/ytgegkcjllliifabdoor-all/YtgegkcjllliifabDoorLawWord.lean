/-
  The walks of the law's word and kept.
-/
import Derived.Test.YtgegkcjllliifabDoorLawMem
namespace Go.Proofs.YtgegkcjllliifabDoor
open Go.RowKit

theorem LawIs.cells {H : HeapI} {N0 : Nat} {w0 w : World} {O : Nat → Nat × Nat} {s : LSt} (h : LawIs H N0 w0 w O s) : w.cell? ⟨s.wB, 0, none⟩ = some s.vh ∧ w.cell? ⟨s.wB, 1, none⟩ = some s.vw ∧ w.cell? ⟨s.wB, 2, none⟩ = some (.int .i64 s.value) ∧ w.cell? ⟨s.wB, 3, none⟩ = some s.vl ∧ w.cell? ⟨s.wB, 4, none⟩ = some s.vk ∧ (∀ k, w.frozen? ⟨s.wB, k, none⟩ = false) ∧ s.wB < w.heap.size := by
  have hs := h.st.1
  unfold worldObj at hs
  refine ⟨?_, ?_, ?_, ?_, ?_, fun k => frozen_of_row w s.wB k _ _ hs, heap_lt hs⟩ <;> (rw [cell_of_row w s.wB _ _ _ _ hs]; rfl)

/-- The struct and one of its rows are turned. -/
theorem LawIs.setWords {H : HeapI} {N0 : Nat} {w0 w w1 : World} {O : Nat → Nat × Nat} {s : LSt} (h : LawIs H N0 w0 w O s) (v' : Value) (words' : List Int) (t : Touch s.vw.ownBlock.toList w w1) (ho : w1.ownsRow 0 3 1 v' words'.length (ints words'))
    (hl : v'.ownBlock = s.vw.ownBlock ∨ ∃ g, v'.ownBlock = some g ∧ w.heap.size ≤ g) : ∃ O', Loc w O (w1.setCell ⟨s.wB, 1, none⟩ v') O' ∧ LawIs H N0 w0 (w1.setCell ⟨s.wB, 1, none⟩ v') O' { s with vw := v', words := words' } := by
  have hlab : ∀ k, k ∈ s.vw.ownBlock.toList → O k = (0, 2) := fun k hk => h.rw.2 k (by simpa using hk)
  have f := Fr.of_touch (O := O) (lab := (0, 2)) t hlab
  have hst := h.st.fr f (lab_ne (by omega))
  have hv1 : ∀ k, v'.ownBlock = some k → ext w O (0, 2) k = (0, 2) := by
    intro k hk
    rcases hl with e | ⟨g, e1, e2⟩
    · rw [e] at hk
      rw [ext_old w O _ k (h.rw.1.lt k hk).2]
      exact h.rw.2 k hk
    · rw [e1] at hk; cases hk; exact ext_new w O _ _ e2
  have t2 : Touch [s.wB] w1 (w1.setCell ⟨s.wB, 1, none⟩ v') := ⟨rfl, rfl, rfl, by simp, fun k _ hk => heap_setCell_other w1 ⟨s.wB, 1, none⟩ k v' (by simpa using hk)⟩
  have f2 := Fr.of_touch (O := ext w O (0, 2)) (lab := (0, 0)) t2 (fun k hk => by simp at hk; rw [hk]; exact hst.2)
  obtain ⟨c1, c2, c3, c4⟩ := h.common f (lab_ne (by omega))
  have n0 := c2
  have hk2 : ∀ k, k < N0 → (w1.setCell ⟨s.wB, 1, none⟩ v').heap[k]? = w1.heap[k]? := fun k hk => f2.block k (by omega) (by rw [c3 k hk]; exact lab_ne (by omega))
  have hw1 : s.wB < w1.heap.size := heap_lt hst.1
  refine ⟨ext w1 (ext w O (0, 2)) (0, 0), (Loc.of_fr f (by simp)).trans (Loc.of_fr f2 (by simp)), c1.trans ⟨rfl, rfl, rfl, by simp, hk2⟩, by simpa using c2, fun k hk => by rw [f2.own k (by omega)]; exact c3 k hk, h.ng, H.globFrame c4 fun k hk => hk2 k (by have := h.ng; omega), ?_, (h.rh.fr f (lab_ne (by omega))).fr f2 (lab_ne (by omega)), ?_, (h.rl.fr f (lab_ne (by omega))).fr f2 (lab_ne (by omega)), (h.rk.fr f (lab_ne (by omega))).fr f2 (lab_ne (by omega)),
    fun i hi => ⟨((h.ps i hi).1.fr f (lab_ne (by omega))).fr f2 (lab_ne (by omega)), ((h.ps i hi).2.1.fr f (lab_ne (by omega))).fr f2 (lab_ne (by omega)), ((h.ps i hi).2.2.fr f (lab_ne (by omega))).fr f2 (lab_ne (by omega))⟩, fun j hj => ⟨((h.lss j hj).1.fr f (lab_ne (by omega))).fr f2 (lab_ne (by omega)), ((h.lss j hj).2.fr f (lab_ne (by omega))).fr f2 (lab_ne (by omega))⟩⟩
  · refine ⟨?_, by rw [ext_old w1 _ _ _ hw1]; exact hst.2⟩
    rw [heap_setCell_same w1 s.wB 1 _ _ v' hst.1]
    rfl
  · exact (show Row w1 (ext w O (0, 2)) (0, 2) _ 1 v' words'.length (ints words') from ⟨ho, hv1⟩).fr f2 (lab_ne (by omega))

/-- The word of a step. -/
def wordOf (words : List Int) (b c : Int) : Int := if c = 0 ∨ words = [] then b else wrap64 (wrap64 (words.getD (pickN b words.length) 0 + c) - 1)

set_option maxHeartbeats 800000 in
theorem word_any {H : HeapI} {N0 : Nat} {w0 w : World} {O : Nat → Nat × Nat} {s : LSt} (h : LawIs H N0 w0 w O s) (k a b c : Int) (hb1 : -9223372036854775808 ≤ b) (hb2 : b ≤ 9223372036854775807) (hl : s.words.length ≤ 100000000) :
    Calls Tryd.prog 64 #[.pointer (some ⟨s.wB, 0, none⟩), .agg #[.int .i64 k, .int .i64 a, .int .i64 b, .int .i64 c]] w fun e w' => e = .returned (.int .i64 (wordOf s.words b c)) ∧ Below w.heap.size w w' := by
  obtain ⟨_, fw, _, _, _, _, hlt⟩ := h.cells
  by_cases c0 : c = 0
  · have HW : Hid (wordOf s.words b c = b) := by unfold wordOf; rw [if_pos (.inl c0)]; exact rfl
    subst c0
    clear h fw
    go_enter Tryd.func64, Tryd.ntmps64
    go_wp2
    go_ret
    exact ⟨ret_int (unhide HW).symm, (Below.refl _ _).alloc (Nat.le_refl _) _⟩
  · have c0' : (c == 0) = false := by simpa using c0
    by_cases cw : s.words = []
    · have HW : Hid (wordOf s.words b c = b) := by unfold wordOf; rw [if_pos (.inr cw)]; exact rfl
      obtain ⟨ao, cap, hv, hc1, hc2⟩ := ownsRow_shape h.rw.1
      rw [hv, cw] at fw
      clear h hv hc1 cw hl
      go_enter Tryd.func64, Tryd.ntmps64
      go_wp2
      go_ret
      exact ⟨ret_int (unhide HW).symm, (Below.refl _ _).alloc (Nat.le_refl _) _⟩
    · have hpos : 1 ≤ s.words.length := by
        rcases Nat.eq_zero_or_pos s.words.length with e | e
        · exact absurd (List.eq_nil_of_length_eq_zero e) cw
        · exact e
      have hp := pickN_lt b s.words.length hpos
      have hI : IntsOf w s.vw s.words := h.rw.1
      obtain ⟨g, cap, hv, hg, hc1, hc2, o1⟩ := hI.at _ hp
      have e1 : s.words[pickN b s.words.length] = s.words.getD (pickN b s.words.length) 0 := by rw [List.getD_eq_getElem?_getD, List.getElem?_eq_getElem hp]; rfl
      have HW : Hid (wordOf s.words b c = wrap64 (wrap64 (s.words.getD (pickN b s.words.length) 0 + c) - 1)) := by unfold wordOf; rw [if_neg (by simp [c0, cw])]; exact rfl
      rw [e1] at o1
      rw [hv] at fw
      unfold maxLen at hc2
      have C : Hid (∀ w1, Calls Tryd.prog 50 #[.int .i64 b, .int .i64 s.words.length] w1 fun e w' => e = .returned (.int .i64 (pickN b s.words.length)) ∧ w' = w1) := fun w1 => lawPick_any b s.words.length w1 hb1 hb2 hpos (by omega)
      generalize pickN b s.words.length = q at *
      generalize s.words.getD q 0 = x at *
      have hlz : ((s.words.length : Int) == 0) = false := by simp; omega
      clear h hv cw e1 hI c0
      go_enter Tryd.func64, Tryd.ntmps64
      go_wp2_with fail
      go_quiet ((go_at_call 50; exact Calls.quiet_of_same (unhide C _)))
      go_wp2
      go_ret
      refine ⟨ret_int (unhide HW).symm, ?_⟩
      have := (Below.refl w.heap.size w).alloc (Nat.le_refl _) (.cells #[.int .i64 k, .int .i64 a, .int .i64 b, .int .i64 c] 52)
      exact ⟨this.os, this.tape, this.output, this.size, this.block⟩

set_option maxHeartbeats 400000 in
theorem kept_any {H : HeapI} {N0 : Nat} {w0 w : World} {O : Nat → Nat × Nat} {s : LSt} (h : LawIs H N0 w0 w O s) (x : Int) (hl : s.words.length ≤ 100000000) :
    Calls Tryd.prog 66 #[.pointer (some ⟨s.wB, 0, none⟩), .int .i64 x] w fun e w' => e = .returned (.tuple #[]) ∧ ∃ v' O', Loc w O w' O' ∧ LawIs H N0 w0 w' O' { s with vw := v', words := s.words ++ [x] } := by
  obtain ⟨i0, hi, hz0, hz1, hz2⟩ := info_parts Tryd.infoInt
  obtain ⟨_, fw, _, _, _, _, hlt⟩ := h.cells
  have hrt := (h.rw.1).alloc (.cells #[.int .i64 x] 3)
  have HH := hide h
  have hnr : Hid (s.vw.ownBlock ≠ some s.wB) := fun e => by
    have h1 := h.rw.2 _ e
    rw [h.st.2] at h1
    exact lab_ne (a := 0) (b := 0) (c := 0) (d := 2) (by omega) h1
  obtain ⟨ao, cap, hv, hc1, hc2⟩ := ownsRow_shape h.rw.1
  obtain ⟨vw, hvw⟩ : ∃ vw, s.vw = vw := ⟨_, rfl⟩
  rw [hvw] at fw hrt hv hnr
  have HV := hide hvw
  clear hvw
  subst hv
  clear h
  go_enter Tryd.func66, Tryd.ntmps66
  go_wp2_with (at_builtin; refine stop ?_)
  refine hide (wpList_append_at _ rfl _ _ 41 rfl 3 i0 (.int .i64 0) 1 8 Tryd.underlying41 hi hz0 hz1 hz2 rfl (by decide) (.slice ao s.words.length cap) s.words.length (ints s.words) rfl hrt ⟨w.heap.size, 0, none⟩ 1 1 [.int .i64 x] rfl rfl ?c1 ?c2 (by decide) (by unfold maxLen; omega) (by omega) ?_)
  case c1 =>
    intro j u hj
    match j, hj with
    | 0, hj => simp at hj; subst hj; simp [Addr.add]
  case c2 => intro u hu; simp at hu; subst hu; rfl
  intro v' w1 ho hg hloc
  obtain ⟨ao', cap', hv', hd1, hd2⟩ := ownsRow_shape ho
  rw [hv'] at ho hloc ⊢
  clear hv'
  have t : Touch s.vw.ownBlock.toList w w1 := by
    refine ⟨hg.os, hg.tape, hg.output, by have := hg.size; simp at this; omega, fun k hk hn => ?_⟩
    rw [hg.block k (by simp; omega) (fun e => hn (by rw [unhide HV]; simpa using e.symm)), heap_alloc_old w _ hk]
  have HF := hide ((unhide HH).setWords _ (s.words ++ [x]) t (by rw [ints_append] at ho; simpa using ho) (by rw [unhide HV]; exact hloc.elim .inl fun ⟨g, e1, e2⟩ => .inr ⟨g, e1, by simp at e2; omega⟩))
  have c1 : w1.cell? ⟨s.wB, 1, none⟩ = some (.slice ao s.words.length cap) := by
    refine hg.cell ?_ (fun e => unhide hnr e.symm)
    rw [World.cell?_alloc_lt _ _ _ hlt]; exact fw
  have c2 : w1.frozen? ⟨s.wB, 1, none⟩ = false := by
    rw [World.frozen?_of_block (w := w) (a := ⟨s.wB, 1, none⟩)]
    · exact (unhide HH).cells.2.2.2.2.2.1 1
    · show w1.heap[s.wB]? = _
      rw [hg.block s.wB (by simp; omega) (fun e => unhide hnr e.symm)]
      exact heap_alloc_old w _ hlt
  clear ho hg hloc hrt fw t
  go_wp2
  go_end0
  obtain ⟨O', hO⟩ := unhide HF
  exact ⟨rfl, _, O', hO.1, hO.2⟩
end Go.Proofs.YtgegkcjllliifabDoor
