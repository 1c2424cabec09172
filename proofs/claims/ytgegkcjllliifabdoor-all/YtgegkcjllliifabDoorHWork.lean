/-
  The walks of followWords, finishWork, followRoots and goOver.
-/
import Derived.Test.YtgegkcjllliifabDoorHReach
import Derived.Deep.LoopGhost
namespace Go.Proofs.YtgegkcjllliifabDoor
open Go.RowKit

/-- A marking on its way: from m at w to m' at wr. -/
structure FI (B : Nat) (w : World) (L : HL) (s : St) (M : ML) (E : Nat → Prop) (m : Ms) (M' : ML) (m' : Ms) (wr : World) : Prop where
  e : M'.m = M.m
  r : MRep B wr L s M' m'
  b : Below B w wr
  mi : MI s E m'
  le : Le s m m'
  mu : s.mu m' ≤ s.mu m
theorem FI.refl {B : Nat} {w : World} {L : HL} {s : St} {M : ML} {E : Nat → Prop} {m : Ms} (r : MRep B w L s M m) (mi : MI s E m) : FI B w L s M E m M m w := ⟨rfl, r, Below.refl _ _, mi, Le.refl _ _, Nat.le_refl _⟩
theorem FI.trans {B : Nat} {w w1 w2 : World} {L : HL} {s : St} {M M1 M2 : ML} {E E2 : Nat → Prop} {m m1 m2 : Ms} (h : FI B w L s M E m M1 m1 w1) (k : FI B w1 L s M1 E2 m1 M2 m2 w2) : FI B w L s M E2 m M2 m2 w2 :=
  ⟨k.e.trans h.e, k.r, h.b.trans k.b, k.mi, h.le.trans k.le, Nat.le_trans k.mu h.mu⟩

/-- What an object's words ask: they lie within the heap. -/
def St.Fit (s : St) (j : Nat) : Prop := j / 32 < s.n ∧ 0 ≤ s.size (j / 32) ∧ s.size (j / 32) ≤ 1536 ∧ j + (s.size (j / 32)).toNat ≤ s.n * 32

set_option maxHeartbeats 800000 in
theorem followWords_any (B : Nat) (L : HL) (s : St) (M : ML) (m : Ms) (E : Nat → Prop) (j : Nat) (w : World) (h : MRep B w L s M m) (ok : s.ok) (hB : B ≤ w.heap.size) (mi : MI s (fun q => E q ∨ q = j) m) (hs : m.stays j = true) (ha : s.atom (j / 32) = false) (hfit : s.Fit j) :
    Calls Tryd.prog 63 #[.pointer (some ⟨M.m, 0, none⟩), .int .i64 j] w fun e w' => e = .returned (.tuple #[]) ∧ ∃ M' m', FI B w L s M E m M' m' w' := by
  obtain ⟨f1, f2, f3, f4⟩ := hfit
  have n2 := h.rep.n2
  have c0 := h.cells.c0
  have fp := h.rep.cells.fp
  have ps := h.rep.cells.ps (j / 32) f1
  obtain ⟨z, hz⟩ : ∃ z : Nat, s.size (j / 32) = z := ⟨(s.size (j / 32)).toNat, by omega⟩
  have HSrc : Hid (∀ i, i < z → s.Src (s.word (j + i))) := fun i hi => .inr ⟨j, i, mi.stay j hs, ha, by rw [hz]; simpa using hi, rfl⟩
  have HCl : Hid (∀ m', (∀ i, i < z → Fol s m' (s.word (j + i))) → Cl s m' j) := fun m' hf i hi => hf i (by rw [hz] at hi; simpa using hi)
  rw [hz] at ps f3 f4
  have f4' : j + z ≤ s.n * 32 := by simpa using f4
  have HFI := hide (FI.refl h mi)
  have OK := hide ok
  clear hz f2 f4 h mi hs ha ok
  go_enter Tryd.func63, Tryd.ntmps63
  go_wp2
  go_loopw [5] (fun i wr => ∃ (k : Nat) (M' : ML) (m' : Ms), k ≤ z ∧ i = .int .i64 k ∧ Hid (FI B w L s M (fun q => E q ∨ q = j) m M' m' wr) ∧ Hid (∀ i, i < k → Fol s m' (s.word (j + i)))) (fun i _ => 2000 - (intOf i).toNat)
  case atStart => exact ⟨0, M, m, by omega, rfl, HFI, fun i hi => by omega⟩
  case round =>
    obtain ⟨k, M', m', hk, rfl, F', W'⟩ := hrel
    clear c0 fp ps
    by_cases hlt : k < z
    · have c0 := (unhide F').r.cells.c0
      rw [(unhide F').e] at c0
      have fw := (unhide F').r.rep.cells.fw
      have ws := (unhide F').r.rep.cells.ws (j + k) (by omega)
      have C := follow_any B L s M' m' (s.word (j + k)) _ (unhide F').r (unhide OK) (Nat.le_trans hB (unhide F').b.size) (Nat.le_trans (unhide F').mi.room (unhide F').r.rep.rm)
      rw [(unhide F').e] at C
      have CC := hide C
      clear C
      have HM := hide ((unhide F').mi.follow (unhide OK) (unhide HSrc k hlt))
      go_wp2_with fail
      refine (unhide CC).mono ?_
      rintro e w2 ⟨rfl, M2, e2, r2, b2⟩
      obtain ⟨g1, g2, g3, g4⟩ := unhide HM
      have F2 := hide ((unhide F').trans ⟨e2, r2, b2, g1, g2, g4⟩)
      have W2 : Hid (∀ i, i < k + 1 → Fol s (m'.follow s (s.word (j + k))) (s.word (j + i))) := fun i hi => by
        by_cases ei : i = k
        · rw [ei]; exact g3
        · exact (unhide W' i (by omega)).mono g2
      clear e2 r2 b2 g1 g2 g3 g4 c0 fw ws
      go_wp2
      go_roundw
      case rel => exact ⟨k + 1, _, _, by omega, by go_num, F2, W2⟩
      case measure => simp [intOf]; omega
    · obtain rfl : k = z := by omega
      go_wp2
      go_end0
      have f := unhide F'
      exact ⟨rfl, M', m', f.e, f.r, f.b, f.mi.close (unhide HCl m' (unhide W')), f.le, f.mu⟩

theorem nats_take (l : List Nat) (q : Nat) : (nats l).take q = nats (l.take q) := by simp [nats, List.map_take]

theorem MRep.workAt {B : Nat} {w : World} {L : HL} {s : St} {M : ML} {m : Ms} (h : MRep B w L s M m) {ws : List Nat} {j : Nat} (hw : m.work = ws ++ [j]) : ∃ g cap, M.vw = .slice (some ⟨g, 0, none⟩) (ws.length + 1) cap ∧ g < w.heap.size ∧ ws.length + 1 ≤ cap ∧ cap ≤ maxLen ∧ w.cell? ⟨g, ws.length, none⟩ = some (.int .i64 (j : Int)) := by
  have ho := h.hv
  rw [hw] at ho
  simp only [List.length_append, List.length_singleton] at ho
  obtain ⟨g, cap, hv, h1, h2, hg⟩ := ownsRow_some ho (by omega)
  rw [hv] at ho
  exact ⟨g, cap, hv, hg, h1, h2, by rw [ho.cellAt _ (by omega)]; simp [nats]⟩

set_option maxHeartbeats 1600000 in
theorem finishWork_any (B : Nat) (L : HL) (s : St) (M : ML) (m : Ms) (E : Nat → Prop) (w : World) (h : MRep B w L s M m) (ok : s.ok) (hfit : ∀ j, s.Reach j → s.Fit j) (hB : B ≤ w.heap.size) (mi : MI s E m) :
    Calls Tryd.prog 61 #[.pointer (some ⟨M.m, 0, none⟩)] w fun e w' => e = .returned (.tuple #[]) ∧ ∃ M' m', FI B w L s M E m M' m' w' ∧ m'.work = [] := by
  have HFI := hide (FI.refl h mi)
  have OK := hide ok
  have HFit := hide hfit
  have hrm := h.rep.rm
  clear h mi ok hfit
  go_enter Tryd.func61, Tryd.ntmps61
  go_wp2_with fail
  go_loopg [2] (s.mu m) (fun gk _ wr => ∃ (M' : ML) (m' : Ms), Hid (FI B w L s M E m M' m' wr) ∧ Hid (s.mu m' ≤ gk))
  case atStart => exact ⟨M, m, HFI, hide (Nat.le_refl _)⟩
  case round =>
    obtain ⟨M', m', F', G'⟩ := hrel
    have c3 := (unhide F').r.cells.c3
    rw [(unhide F').e] at c3
    rcases List.eq_nil_or_concat m'.work with hw | ⟨ws, j, hw⟩
    · have hv := (unhide F').r.hv
      rw [hw] at hv
      obtain ⟨ao, cap, hv2, hc1, hc2⟩ := ownsRow_shape hv
      rw [hv2] at c3
      have HW := hide hw
      clear hv hv2 hw hc1
      go_wp2
      go_end0
      exact ⟨rfl, M', m', unhide F', unhide HW⟩
    · rw [List.concat_eq_append] at hw
      obtain ⟨g, cap, hv, hg, hc1, hc2, hcell⟩ := (unhide F').r.workAt hw
      obtain ⟨p1, p2, p3, p4⟩ := (unhide F').mi.pop hw
      have hroom := (unhide F').mi.room
      rw [hw, List.length_append, List.length_singleton] at hroom
      have mz := (unhide F').r.cells.mz
      rw [(unhide F').e] at mz
      have R2 : Hid (MRep B (wr.setCell ⟨M.m, 3, none⟩ (.slice (some ⟨g, 0, none⟩) ws.length cap)) L s (⟨M.m, M'.sb, M'.kb, .slice (some ⟨g, 0, none⟩) ws.length cap⟩ : ML) { m' with work := ws }) := by
        have ho := (unhide F').r.hv
        rw [hv, hw] at ho
        simp only [List.length_append, List.length_singleton] at ho
        have h1 := own_take (q := ws.length) ho (by omega)
        rw [nats_take, List.take_left] at h1
        have := (unhide F').r.setWork (w1 := wr) (.slice (some ⟨g, 0, none⟩) ws.length cap) ws (fun _ _ _ => rfl) h1 (.inl (by rw [hv]; rfl))
        rw [(unhide F').e] at this
        exact this
      have FP : Hid (FI B wr L s M' (fun q => E q ∨ q = j) m' (⟨M.m, M'.sb, M'.kb, .slice (some ⟨g, 0, none⟩) ws.length cap⟩ : ML) { m' with work := ws } (wr.setCell ⟨M.m, 3, none⟩ (.slice (some ⟨g, 0, none⟩) ws.length cap))) :=
        ⟨(unhide F').e.symm, unhide R2, below_setB B wr M.m 3 _ (by rw [← (unhide F').e]; exact (unhide F').r.bm), p1, ⟨fun _ h => h, fun _ h => h, fun h => h, Nat.le_refl _, fun h => .inl h⟩, by omega⟩
      have CF := followWords_any B L s _ { m' with work := ws } E j _ (unhide R2) (unhide OK) (by have := (unhide F').b.size; simp; omega) p1 p2 p3 (unhide HFit j ((unhide F').mi.stay j p2))
      have CC := hide CF
      have P4 := hide p4
      have hjb : (j : Int) < 2000 := by
        have := (unhide HFit j ((unhide F').mi.stay j p2)).1
        have := (unhide F').r.rep.n2
        omega
      rw [hv] at c3
      unfold maxLen at hc2
      clear CF hv hw p1 p2 p3 p4
      go_wp2_with fail
      refine (unhide CC).mono ?_
      rintro e w2 ⟨rfl, M2, m2, f2⟩
      have G2 := hide f2.mu
      have F2 := hide (((unhide F').trans (unhide FP)).trans f2)
      clear f2 c3 hcell
      go_wp2
      go_roundg (s.mu m2)
      case measure => have a := unhide G'; have b := unhide G2; have c := unhide P4; omega
      case rel => exact ⟨M2, m2, F2, hide (Nat.le_refl _)⟩
end Go.Proofs.YtgegkcjllliifabDoor
