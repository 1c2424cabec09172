/-
  The walks of Push, Pop and Set.
-/
import Derived.Test.YtgegkcjllliifabDoorHCount
namespace Go.Proofs.YtgegkcjllliifabDoor
open Go.RowKit

theorem Rep.root {w : World} {L : HL} {s : St} (h : Rep w L s) (i : Nat) (hi : i < s.roots.length) : ∃ g cap, L.vr = .slice (some ⟨g, 0, none⟩) s.roots.length cap ∧ g < w.heap.size ∧ s.roots.length ≤ cap ∧ cap ≤ maxLen ∧ w.cell? ⟨g, i, none⟩ = some (.int .i64 (s.roots[i])) := by
  obtain ⟨g, cap, hv, h1, h2, hg⟩ := ownsRow_some h.hr (by omega)
  have ho := h.hr
  rw [hv] at ho
  exact ⟨g, cap, hv, hg, h1, h2, by rw [ho.cellAt _ (by omega)]; simp [ints, hi]⟩

/-- The roots are replaced. -/
theorem Rep.setRoots {w w1 : World} {L : HL} {s : St} (h : Rep w L s) (v' : Value) (roots' : List Int) (ha : ∀ k, k < w.heap.size → L.vr.ownBlock ≠ some k → w1.heap[k]? = w.heap[k]?) (ht : Touch L.blocks w w1)
    (ho : w1.ownsRow 0 3 1 v' roots'.length (ints roots')) (hl : v'.ownBlock = L.vr.ownBlock ∨ ∃ g, v'.ownBlock = some g ∧ w.heap.size ≤ g) (hr : roots'.length ≤ 24) : HSt w L { s with roots := roots' } (w1.setCell ⟨L.h, 4, none⟩ v') := by
  have a := HL.apart h.nd
  have c := h.cells
  have ne : ∀ k, k < w.heap.size → k ≠ L.h → L.vr.ownBlock ≠ some k → (w1.setCell ⟨L.h, 4, none⟩ v').heap[k]? = w.heap[k]? := fun k hk e1 e2 => by rw [set_heap_other _ _ _ _ _ e1, ha k hk e2]
  have hv : ∀ k, v'.ownBlock = some k → k ≠ L.h ∧ k ≠ L.bp ∧ k ≠ L.bw ∧ k ≠ L.bb ∧ k ≠ L.bk := by
    intro k hk
    rcases hl with e | ⟨g, e1, e2⟩
    · rw [e] at hk; exact a.r k hk
    · rw [e1] at hk
      cases hk
      have := c.l1; have := c.l2; have := c.l3; have := c.l4; have := c.l5
      omega
  refine ⟨{ L with vr := v' }, rfl, ⟨?_, ?_, ?_, ?_, ?_, ?_, ?_, h.n1, h.n2, hr, h.r1, h.rm, h.tg, h.sb⟩, fun k hk => ?_, ?_⟩
  · have hw1 : w1.heap[L.h]? = some (.cells (hcells L s) 59 (0, 0)) := by rw [ha L.h c.l1 (fun e => (a.r _ e).1 rfl)]; exact h.hh
    show (w1.setCell ⟨L.h, 4, none⟩ v').heap[L.h]? = _
    rw [heap_setCell_same w1 L.h 4 _ _ v' hw1]
    rfl
  · show (w1.setCell ⟨L.h, 4, none⟩ v').heap[L.bp]? = _
    rw [ne L.bp c.l2 (Ne.symm a.hp) (fun e => (a.r _ e).2.1 rfl)]; exact h.hp
  · show (w1.setCell ⟨L.h, 4, none⟩ v').heap[L.bw]? = _
    rw [ne L.bw c.l3 (Ne.symm a.hw) (fun e => (a.r _ e).2.2.1 rfl)]; exact h.hw
  · show (w1.setCell ⟨L.h, 4, none⟩ v').heap[L.bb]? = _
    rw [ne L.bb c.l4 (Ne.symm a.hb) (fun e => (a.r _ e).2.2.2.1 rfl)]; exact h.hb
  · show (w1.setCell ⟨L.h, 4, none⟩ v').heap[L.bk]? = _
    rw [ne L.bk c.l5 (Ne.symm a.hk) (fun e => (a.r _ e).2.2.2.2 rfl)]; exact h.hk
  · exact ownsRow_agree ho fun k hk => set_heap_other _ _ _ _ _ (hv k hk).1
  · have := h.nd
    simp only [HL.blocks, List.nodup_cons, List.mem_cons, Option.mem_toList, not_or] at this ⊢
    obtain ⟨⟨a1, a2, a3, a4, a5⟩, ⟨b1, b2, b3, b4⟩, ⟨c1, c2, c3⟩, ⟨d1, d2⟩, e1, _⟩ := this
    refine ⟨⟨a1, a2, a3, a4, fun e => (hv _ e).1 rfl⟩, ⟨b1, b2, b3, fun e => (hv _ e).2.1 rfl⟩, ⟨c1, c2, fun e => (hv _ e).2.2.1 rfl⟩, ⟨d1, fun e => (hv _ e).2.2.2.1 rfl⟩, fun e => (hv _ e).2.2.2.2 rfl, ?_⟩
    cases v'.ownBlock <;> simp
  · simp only [HL.blocks, List.mem_cons, Option.mem_toList] at hk ⊢
    rcases hk with hk | hk | hk | hk | hk | hk
    · exact .inl (.inl hk)
    · exact .inl (.inr (.inl hk))
    · exact .inl (.inr (.inr (.inl hk)))
    · exact .inl (.inr (.inr (.inr (.inl hk))))
    · exact .inl (.inr (.inr (.inr (.inr (.inl hk)))))
    · rcases hl with e1 | ⟨g, e1, e2⟩
      · rw [e1] at hk; exact .inl (.inr (.inr (.inr (.inr (.inr hk)))))
      · rw [e1] at hk; cases hk; exact .inr e2
  · exact ht.set _ _ _ (.inl (by simp [HL.blocks]))

set_option maxHeartbeats 400000 in
theorem hPush_full (L : HL) (s : St) (x : Int) (w : World) (h : Rep w L s) (hl : 24 ≤ s.roots.length) :
    Calls Tryd.prog 19 #[.pointer (some ⟨L.h, 0, none⟩), .int .i64 x] w fun e w' => e = .returned (.int .i64 7) ∧ w' = w := by
  have fr := h.cells.fr
  have hl2 := h.rt
  obtain ⟨ao, cap, hv, hc1, hc2⟩ := ownsRow_shape h.hr
  rw [hv] at fr
  clear h hv
  go_enter Tryd.func19, Tryd.ntmps19
  go_wp2
  go_ret
  exact ⟨rfl, rfl⟩

set_option maxRecDepth 10000 in
set_option maxHeartbeats 400000 in
theorem hPush_ok (L : HL) (s : St) (x : Int) (w : World) (h : Rep w L s) (hl : s.roots.length < 24) :
    Calls Tryd.prog 19 #[.pointer (some ⟨L.h, 0, none⟩), .int .i64 x] w fun e w' => e = .returned (.int .i64 0) ∧ HSt w L { s with roots := s.roots ++ [x] } w' := by
  obtain ⟨i0, hi, hz0, hz1, hz2⟩ := info_parts Tryd.infoInt
  have fr := h.cells.fr
  have hrt := (h.hr).alloc (.cells #[.int .i64 x] 3)
  have HH := hide h
  have hlt : L.h < w.heap.size := h.cells.l1
  have hnr : Hid (L.vr.ownBlock ≠ some L.h) := fun e => ((HL.apart h.nd).r _ e).1 rfl
  obtain ⟨ao, cap, hv, hc1, hc2⟩ := ownsRow_shape h.hr
  obtain ⟨vr, hvr⟩ : ∃ vr, L.vr = vr := ⟨_, rfl⟩
  rw [hvr] at fr hrt hv hnr
  have HV := hide hvr
  clear hvr
  subst hv
  clear h
  go_enter Tryd.func19, Tryd.ntmps19
  go_wp2_with (at_builtin; refine stop ?_)
  refine hide (wpList_append_at _ rfl _ _ 41 rfl 3 i0 (.int .i64 0) 1 8 Tryd.underlying41 hi hz0 hz1 hz2 rfl (by decide) (.slice ao s.roots.length cap) s.roots.length (ints s.roots) rfl hrt ⟨w.heap.size, 0, none⟩ 1 1 [.int .i64 x] rfl rfl ?c1 ?c2 (by decide) (by unfold maxLen; omega) (by omega) ?_)
  case c1 =>
    intro j u hj
    match j, hj with
    | 0, hj => simp at hj; subst hj; simp [Addr.add]
  case c2 => intro u hu; simp at hu; subst hu; rfl
  intro v' w1 ho hg hloc
  obtain ⟨ao', cap', hv', hd1, hd2⟩ := ownsRow_shape ho
  rw [hv'] at ho hloc ⊢
  clear hv'
  have HO := hide ho
  have HG := hide hg
  have HLO := hide hloc
  have c1 : w1.cell? ⟨L.h, 4, none⟩ = some (.slice ao s.roots.length cap) := by
    refine hg.cell ?_ (fun e => unhide hnr e.symm)
    rw [World.cell?_alloc_lt _ _ _ hlt]; exact fr
  have c2 : w1.frozen? ⟨L.h, 4, none⟩ = false := by
    rw [World.frozen?_of_block (w := w) (a := ⟨L.h, 4, none⟩)]
    · exact (unhide HH).cells.hz 4
    · show w1.heap[L.h]? = _
      rw [hg.block L.h (by simp; omega) (fun e => unhide hnr e.symm)]
      exact heap_alloc_old w _ hlt
  clear ho hg hloc hrt fr
  go_wp2
  go_ret
  refine ⟨rfl, ?_⟩
  have hg := unhide HG
  refine (unhide HH).setRoots _ (s.roots ++ [x]) ?_ ?_ ?_ ?_ (by simp; omega)
  · intro k hk hne
    rw [unhide HV] at hne
    rw [hg.block k (by simp; omega) (fun e => hne e.symm), heap_alloc_old w _ hk]
  · refine ⟨hg.os, hg.tape, hg.output, by have := hg.size; simp at this; omega, fun k hk hn => ?_⟩
    rw [hg.block k (by simp; omega) (fun e => hn (by rw [← unhide HV] at e; simp [HL.blocks, e.symm])), heap_alloc_old w _ hk]
  · have := unhide HO
    rw [ints_append] at this
    simpa using this
  · rcases unhide HLO with e | ⟨g, e1, e2⟩
    · left; rw [unhide HV]; exact e
    · right; exact ⟨g, e1, by first | omega | (simp at e2; omega)⟩

set_option maxHeartbeats 400000 in
theorem hPop_none (L : HL) (s : St) (w : World) (h : Rep w L s) (hl : s.roots = []) :
    Calls Tryd.prog 26 #[.pointer (some ⟨L.h, 0, none⟩)] w fun e w' => e = .returned (.tuple #[.int .i64 0, .int .i64 8]) ∧ w' = w := by
  have fr := h.cells.fr
  obtain ⟨ao, cap, hv, hc1, hc2⟩ := ownsRow_shape h.hr
  rw [hv, hl] at fr
  clear h hv hc1 hl
  go_enter Tryd.func26, Tryd.ntmps26
  go_wp2
  go_ret2
  exact ⟨rfl, rfl⟩

set_option maxHeartbeats 800000 in
theorem hPop_ok (L : HL) (s : St) (q : Nat) (w : World) (h : Rep w L s) (hl : s.roots.length = q + 1) :
    Calls Tryd.prog 26 #[.pointer (some ⟨L.h, 0, none⟩)] w fun e w' => e = .returned (.tuple #[.int .i64 (s.roots.getD q 0), .int .i64 0]) ∧ HSt w L { s with roots := s.roots.take q } w' := by
  have fr := h.cells.fr
  have hrt := h.rt
  obtain ⟨g, cap, hv, hg, hc1, hc2, c0⟩ := h.root q (by omega)
  have e0 : s.roots[q]'(by omega) = s.roots.getD q 0 := by rw [List.getD_eq_getElem?_getD, List.getElem?_eq_getElem (by omega)]; rfl
  rw [e0] at c0
  generalize s.roots.getD q 0 = x at c0 ⊢
  rw [hv, hl] at fr
  have z0 := h.cells.hz 4
  have HF : Hid (HSt w L { s with roots := s.roots.take q } (w.setCell ⟨L.h, 4, none⟩ (.slice (some ⟨g, 0, none⟩) q cap))) := by
    refine h.setRoots _ (s.roots.take q) (fun _ _ _ => rfl) (Touch.refl _ _) ?_ (.inl (by rw [hv]; rfl)) (by simp; omega)
    have ho := h.hr
    rw [hv] at ho
    have := own_take (q := q) ho (by omega)
    rw [List.length_take, Nat.min_eq_left (by omega)]
    simpa [ints] using this
  rw [hl] at hc1
  unfold maxLen at hc2
  have hq : q < 24 := by omega
  clear h hv hl e0 hrt
  go_enter Tryd.func26, Tryd.ntmps26
  go_wp2
  go_ret2
  exact ⟨rfl, unhide HF⟩

set_option maxHeartbeats 400000 in
theorem hSet_none (L : HL) (s : St) (i x : Int) (w : World) (h : Rep w L s) (hi : i < 0 ∨ (s.roots.length : Int) ≤ i) :
    Calls Tryd.prog 23 #[.pointer (some ⟨L.h, 0, none⟩), .int .i64 i, .int .i64 x] w fun e w' => e = .returned (.int .i64 9) ∧ w' = w := by
  have fr := h.cells.fr
  obtain ⟨ao, cap, hv, hc1, hc2⟩ := ownsRow_shape h.hr
  rw [hv] at fr
  clear h hv
  by_cases c : i < 0
  · go_enter Tryd.func23, Tryd.ntmps23
    go_wp2
    go_ret
    exact ⟨rfl, rfl⟩
  · have c' : (s.roots.length : Int) ≤ i := by omega
    clear hi
    go_enter Tryd.func23, Tryd.ntmps23
    go_wp2
    go_ret
    exact ⟨rfl, rfl⟩

/-- A word of the roots' row is turned. -/
theorem Rep.storeRoot {w : World} {L : HL} {s : St} (h : Rep w L s) {g cap : Nat} (hv : L.vr = .slice (some ⟨g, 0, none⟩) s.roots.length cap) (i : Nat) (x : Int) :
    HSt w L { s with roots := s.roots.set i x } (w.setCell ⟨g, i, none⟩ (.int .i64 x)) := by
  have a := HL.apart h.nd
  have hvg : L.vr.ownBlock = some g := by rw [hv]; rfl
  obtain ⟨n1, n2, n3, n4, n5⟩ := a.r g hvg
  have ho := h.hr
  rw [hv] at ho
  obtain ⟨s1, s2⟩ := ho.stored i (.int .i64 x)
  refine HSt.of ⟨?_, ?_, ?_, ?_, ?_, ?_, h.nd, h.n1, h.n2, by simpa using h.rt, h.r1, h.rm, h.tg, h.sb⟩ ((Touch.refl _ _).set _ _ _ (.inl (by simp [HL.blocks, hvg])))
  · rw [set_heap_other _ _ _ _ _ (Ne.symm n1)]; exact h.hh
  · rw [set_heap_other _ _ _ _ _ (Ne.symm n2)]; exact h.hp
  · rw [set_heap_other _ _ _ _ _ (Ne.symm n3)]; exact h.hw
  · rw [set_heap_other _ _ _ _ _ (Ne.symm n4)]; exact h.hb
  · rw [set_heap_other _ _ _ _ _ (Ne.symm n5)]; exact h.hk
  · rw [hv]
    rw [ints_set] at s1
    simpa using s1

set_option maxHeartbeats 400000 in
theorem hSet_ok (L : HL) (s : St) (i : Nat) (x : Int) (w : World) (h : Rep w L s) (hi : i < s.roots.length) :
    Calls Tryd.prog 23 #[.pointer (some ⟨L.h, 0, none⟩), .int .i64 i, .int .i64 x] w fun e w' => e = .returned (.int .i64 0) ∧ HSt w L { s with roots := s.roots.set i x } w' := by
  have fr := h.cells.fr
  have hrt := h.rt
  obtain ⟨g, cap, hv, hg, hc1, hc2, c0⟩ := h.root i hi
  have HF := hide (h.storeRoot hv i x)
  have z0 : w.frozen? ⟨g, i, none⟩ = false := by
    have ho := h.hr
    rw [hv] at ho
    exact ho.frozenAt i
  rw [hv] at fr
  unfold maxLen at hc2
  clear h hv
  go_enter Tryd.func23, Tryd.ntmps23
  go_wp2
  go_ret
  exact ⟨rfl, unhide HF⟩
end Go.Proofs.YtgegkcjllliifabDoor
