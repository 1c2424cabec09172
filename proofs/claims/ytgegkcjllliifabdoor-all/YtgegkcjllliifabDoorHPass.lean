/-
  The walks of followRoots and goOver.
-/
import Derived.Test.YtgegkcjllliifabDoorHWork
namespace Go.Proofs.YtgegkcjllliifabDoor
open Go.RowKit

set_option maxHeartbeats 800000 in
theorem followRoots_any (B : Nat) (L : HL) (s : St) (M : ML) (m : Ms) (w : World) (h : MRep B w L s M m) (ok : s.ok) (hfit : ∀ j, s.Reach j → s.Fit j) (hB : B ≤ w.heap.size) (mi : MI s (fun _ => False) m) (hw : m.work = []) :
    Calls Tryd.prog 44 #[.pointer (some ⟨M.m, 0, none⟩)] w fun e w' => e = .returned (.tuple #[]) ∧ ∃ M' m', FI B w L s M (fun _ => False) m M' m' w' ∧ m'.work = [] ∧ ∀ x, x ∈ s.roots → Fol s m' x := by
  have HFI := hide (FI.refl h mi)
  have HW := hide hw
  have OK := hide ok
  have HFit := hide hfit
  have hrt := h.rep.rt
  have c0 := h.cells.c0
  have fr := h.rep.cells.fr
  obtain ⟨ao, cap, hv, hc1, hc2⟩ := ownsRow_shape h.rep.hr
  rw [hv] at fr
  have HV := hide hv
  unfold maxLen at hc2
  clear h mi ok hfit hw hv
  go_enter Tryd.func44, Tryd.ntmps44
  go_wp2
  go_loopw [12] (fun i wr => ∃ (k : Nat) (M' : ML) (m' : Ms), k ≤ s.roots.length ∧ i = .int .i64 k ∧ Hid (FI B w L s M (fun _ => False) m M' m' wr) ∧ Hid (m'.work = []) ∧ Hid (∀ q (hq : q < s.roots.length), q < k → Fol s m' (s.roots[q]))) (fun i _ => 2000 - (intOf i).toNat)
  case atStart => exact ⟨0, M, m, by omega, rfl, HFI, HW, fun q _ hq => by omega⟩
  case round =>
    obtain ⟨k, M', m', hk, rfl, F', W', D'⟩ := hrel
    clear c0 fr
    by_cases hlt : k < s.roots.length
    · obtain ⟨g, cp, hv, hg, hd1, hd2, hcell⟩ := (unhide F').r.rep.root k hlt
      rw [unhide HV] at hv
      simp only [Value.slice.injEq, true_and] at hv
      obtain ⟨rfl, rfl⟩ := hv
      have hsrc : s.Src (s.roots[k]) := .inl (List.getElem_mem hlt)
      have hmem : s.roots[k] = s.roots[k] := rfl
      have C := follow_any B L s M' m' (s.roots[k]) _ (unhide F').r (unhide OK) (Nat.le_trans hB (unhide F').b.size) (Nat.le_trans (unhide F').mi.room (unhide F').r.rep.rm)
      rw [(unhide F').e] at C
      have CC := hide C
      have HM := hide ((unhide F').mi.follow (unhide OK) hsrc)
      obtain ⟨x, hx⟩ : ∃ x, s.roots[k] = x := ⟨_, rfl⟩
      rw [hx] at hcell CC HM
      have HX := hide hx
      clear C hsrc hmem hx
      go_wp2_with fail
      refine (unhide CC).mono ?_
      rintro e w2 ⟨rfl, M2, e2, r2, b2⟩
      obtain ⟨g1, g2, g3, g4⟩ := unhide HM
      have F2 := hide ((unhide F').trans ⟨e2, r2, b2, g1, g2, g4⟩)
      have C2 := finishWork_any B L s M2 _ (fun _ => False) _ r2 (unhide OK) (unhide HFit) (Nat.le_trans hB (unhide F2).b.size) g1
      rw [e2, (unhide F').e] at C2
      have CC2 := hide C2
      have D2 : Hid (∀ q (hq : q < s.roots.length), q < k + 1 → Fol s (m'.follow s x) (s.roots[q])) := fun q hq hlt' => by
        by_cases ei : q = k
        · subst ei; rw [unhide HX]; exact g3
        · exact (unhide D' q hq (by omega)).mono g2
      clear e2 r2 b2 g1 g2 g3 g4 C2 hcell
      go_wp2_with fail
      refine (unhide CC2).mono ?_
      rintro e w3 ⟨rfl, M3, m3, f3, hw3⟩
      have F3 := hide ((unhide F2).trans f3)
      have HW3 := hide hw3
      have D3 : Hid (∀ q (hq : q < s.roots.length), q < k + 1 → Fol s m3 (s.roots[q])) := fun q hq hlt' => (unhide D2 q hq hlt').mono f3.le
      clear f3 hw3
      go_wp2
      go_roundw
      case rel => exact ⟨k + 1, M3, m3, by omega, by go_num, F3, HW3, D3⟩
      case measure => simp [intOf]; omega
    · go_wp2
      go_end0
      refine ⟨rfl, M', m', unhide F', unhide W', fun x hx => ?_⟩
      obtain ⟨q, hq, rfl⟩ := List.getElem_of_mem hx
      exact unhide D' q hq (by omega)

set_option maxHeartbeats 1600000 in
theorem goOver_any (B : Nat) (L : HL) (s : St) (M : ML) (m : Ms) (w : World) (h : MRep B w L s M m) (ok : s.ok) (hfit : ∀ j, s.Reach j → s.Fit j) (hB : B ≤ w.heap.size) (mi : MI s (fun _ => True) m) (hw : m.work = []) :
    Calls Tryd.prog 45 #[.pointer (some ⟨M.m, 0, none⟩)] w fun e w' => e = .returned (.tuple #[]) ∧ ∃ M' m', FI B w L s M (fun _ => False) m M' m' w' ∧ m'.work = [] := by
  have n2 := h.rep.n2
  have HFI : Hid (FI B w L s M (fun q => 0 ≤ q) m M m w) := FI.refl h (mi.weaken fun q _ _ _ => Nat.zero_le q)
  have HW := hide hw
  have OK := hide ok
  have HFit := hide hfit
  have c1 := h.cells.c1
  clear h mi ok hfit hw
  go_enter Tryd.func45, Tryd.ntmps45
  go_wp2
  go_loopw [8] (fun i wr => ∃ (k : Nat) (M' : ML) (m' : Ms), k ≤ s.n * 32 ∧ i = .int .i64 k ∧ Hid (FI B w L s M (fun q => k ≤ q) m M' m' wr) ∧ Hid (m'.work = [])) (fun i _ => 2000 - (intOf i).toNat)
  case atStart => exact ⟨0, M, m, by omega, rfl, HFI, HW⟩
  case round =>
    obtain ⟨k, M', m', hk, rfl, F', W'⟩ := hrel
    clear c1
    by_cases hlt : k < s.n * 32
    · have c1 := (unhide F').r.cells.c1
      have c0 := (unhide F').r.cells.c0
      rw [(unhide F').e] at c1 c0
      have ss := (unhide F').r.cells.ss k hlt
      have hkp : k / 32 < s.n := by omega
      have CA := hide (atomicAt_any L s k _ (unhide F').r.rep hkp)
      obtain ⟨b, hb⟩ : ∃ b, m'.stays k = b := ⟨_, rfl⟩
      obtain ⟨t, ht⟩ : ∃ t, s.atom (k / 32) = t := ⟨_, rfl⟩
      rw [hb] at ss
      rw [ht] at CA
      have HBS := hide hb
      have HAT := hide ht
      clear hb ht
      cases b
      · have F2 : Hid (FI B w L s M (fun q => k + 1 ≤ q) m M' m' wr) := by
          have f := unhide F'
          refine ⟨f.e, f.r, f.b, f.mi.weaken fun q hq ha hE => ?_, f.le, f.mu⟩
          have : q ≠ k := fun e => by rw [e, unhide HBS] at hq; cases hq
          omega
        go_wp2
        go_roundw
        case rel => exact ⟨k + 1, M', m', by omega, by go_num, F2, W'⟩
        case measure => simp [intOf]; omega
      · cases t
        · have mi2 : MI s (fun q => (k + 1 ≤ q) ∨ q = k) m' := (unhide F').mi.weaken fun q _ _ hE => by omega
          have CF := followWords_any B L s M' m' (fun q => k + 1 ≤ q) k _ (unhide F').r (unhide OK) (Nat.le_trans hB (unhide F').b.size) mi2 (unhide HBS) (unhide HAT) (unhide HFit k ((unhide F').mi.stay k (unhide HBS)))
          rw [(unhide F').e] at CF
          have CC := hide CF
          clear CF mi2
          go_wp2_with (go_at_call 62; refine (unhide CA).mono ?_; rintro e w' ⟨rfl, rfl⟩)
          refine (unhide CC).mono ?_
          rintro e w2 ⟨rfl, M2, m2, f2⟩
          have F2 := hide ((unhide F').trans f2)
          have C2 := finishWork_any B L s M2 m2 (fun q => k + 1 ≤ q) _ f2.r (unhide OK) (unhide HFit) (Nat.le_trans hB (unhide F2).b.size) f2.mi
          rw [(unhide F2).e] at C2
          have CC2 := hide C2
          clear f2 C2 c1 c0 ss
          go_wp2_with fail
          refine (unhide CC2).mono ?_
          rintro e w3 ⟨rfl, M3, m3, f3, hw3⟩
          have F3 := hide ((unhide F2).trans f3)
          have HW3 := hide hw3
          clear f3 hw3
          go_wp2
          go_roundw
          case rel => exact ⟨k + 1, M3, m3, by omega, by go_num, F3, HW3⟩
          case measure => simp [intOf]; omega
        · have F2 : Hid (FI B w L s M (fun q => k + 1 ≤ q) m M' m' wr) := by
            have f := unhide F'
            refine ⟨f.e, f.r, f.b, f.mi.weaken fun q hq ha hE => ?_, f.le, f.mu⟩
            have : q ≠ k := fun e => by rw [e, unhide HAT] at ha; cases ha
            omega
          go_wp2_with (go_at_call 62; refine (unhide CA).mono ?_; rintro e w' ⟨rfl, rfl⟩)
          go_roundw
          case rel => exact ⟨k + 1, M', m', by omega, by go_num, F2, W'⟩
          case measure => simp [intOf]; omega
    · go_wp2
      go_end0
      have f := unhide F'
      refine ⟨rfl, M', m', ⟨f.e, f.r, f.b, f.mi.weaken fun q hq ha hE => ?_, f.le, f.mu⟩, unhide W'⟩
      have := (Reach.lt (unhide OK) (f.mi.stay q hq)).1
      omega
end Go.Proofs.YtgegkcjllliifabDoor
