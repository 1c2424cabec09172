/-
  The walk of the law's laid.
-/
import Derived.Test.YtgegkcjllliifabDoorLawRooted
namespace Go.Proofs.YtgegkcjllliifabDoor
open Go.RowKit

theorem reach_unique {m : Mo} {on1 on2 : List Bool} (h1 : IsReach m on1) (h2 : IsReach m on2) : on1 = on2 := by
  have e1 : ∀ i, isOn on1 i → isOn on2 i := fun i hi => h1.least (isOn on2) h2.root h2.step i hi
  have e2 : ∀ i, isOn on2 i → isOn on1 i := fun i hi => h2.least (isOn on1) h1.root h1.step i hi
  apply List.ext_getElem (by rw [h1.len, h2.len])
  intro i hi1 hi2
  have f1 : on1.getD i false = on1[i] := by rw [List.getD_eq_getElem?_getD, List.getElem?_eq_getElem hi1]; rfl
  have f2 : on2.getD i false = on2[i] := by rw [List.getD_eq_getElem?_getD, List.getElem?_eq_getElem hi2]; rfl
  have g1 := e1 i
  have g2 := e2 i
  unfold isOn at g1 g2
  rw [f1, f2] at g1 g2
  cases h : on1[i] <;> cases h' : on2[i] <;> simp_all

theorem ahead_unique {m m1 m2 : Mo} {words : Nat} {at' : Bool} {e1 e2 : Int} (h1 : AheadTo m words at' m1 e1) (h2 : AheadTo m words at' m2 e2) : m1 = m2 ∧ e1 = e2 := by
  unfold AheadTo at h1 h2
  split at h1
  · rename_i c
    rw [if_pos c] at h2
    obtain ⟨o1, r1, rfl, rfl⟩ := h1
    obtain ⟨o2, r2, rfl, rfl⟩ := h2
    rw [reach_unique r1 r2]
    exact ⟨rfl, rfl⟩
  · rename_i c
    rw [if_neg c] at h2
    split at h1
    · rename_i c2
      rw [if_pos c2] at h2
      exact ⟨h1.1.trans h2.1.symm, h1.2.trans h2.2.symm⟩
    · rename_i c2
      rw [if_neg c2] at h2
      obtain ⟨o1, r1, rfl, rfl⟩ := h1
      obtain ⟨o2, r2, rfl, rfl⟩ := h2
      rw [reach_unique r1 r2]
      exact ⟨rfl, rfl⟩

theorem ahead_grown {m m1 : Mo} {words : Nat} {at' : Bool} {e : Int} (h : AheadTo m words at' m1 e) (ho : m.objs.length ≤ 2000) (hk : m.kept ≤ 2000) : m1.runs ≤ m.runs + 1 ∧ m1.since ≤ m.since ∧ m1.kept ≤ 2000 := by
  have key : ∀ on, (m.collect on).runs ≤ m.runs + 1 ∧ (m.collect on).since ≤ m.since ∧ (m.collect on).kept ≤ 2000 := by
    intro on
    have := (keepG_sublist m.objs on).length_le
    refine ⟨Nat.le_refl _, Nat.zero_le _, ?_⟩
    show (keepG m.objs on).length ≤ 2000
    omega
  unfold AheadTo at h
  split at h
  · obtain ⟨on, _, rfl, _⟩ := h; exact key on
  · split at h
    · obtain ⟨rfl, _⟩ := h; exact ⟨by omega, Nat.le_refl _, hk⟩
    · obtain ⟨on, _, rfl, _⟩ := h; exact key on

theorem fits_range {m : Mo} {x : Int} {words : Nat} {at' : Bool} (h : m.fits x words at' = true) (hp : m.pages ≤ 48) : 1048576 ≤ x ∧ x ≤ 2000000 := by
  unfold Mo.fits at h
  split at h
  · cases h
  · rename_i c
    rcases page_cases m x with e | ⟨p, e, p1, p2, p3⟩
    · omega
    · omega

theorem words_bd (n : Nat) (h1 : 1 ≤ n) (h2 : n ≤ 1536) : ∃ words : Nat, sizeOf' n = words ∧ 1 ≤ words ∧ words ≤ 1536 := by
  refine ⟨(sizeOf' n).toNat, ?_, ?_, ?_⟩ <;> (unfold sizeOf'; omega)

/-- One step more, all in step. -/
def Next (H : HeapI) (N0 : Nat) (w0 : World) (s : LSt) (t : Nat) (w' : World) : Prop := ∃ s' O', s'.wB = s.wB ∧ LawIs H N0 w0 w' O' s' ∧ Ok (t + 1) s'
theorem Both.next {H : HeapI} {N0 : Nat} {w0 : World} {s : LSt} {i t : Nat} {w' : World} (h : Both H N0 w0 s i t w') : Next H N0 w0 s t w' := by
  obtain ⟨p', O', h1, h2⟩ := h
  exact ⟨s.setP i p', O', rfl, h1, h2⟩

/-- A word is kept. -/
def LSt.keepW (s : LSt) (v : Value) (x : Int) : LSt := { s with vw := v, words := s.words ++ [x] }
theorem Ok.keepW {t : Nat} {s : LSt} (h : Ok (t + 1) s) (v : Value) (x : Int) (hw : s.words.length ≤ t) : Ok (t + 1) (s.keepW v x) :=
  ⟨h.sync, h.runs, by simp [LSt.keepW]; omega, h.hs, h.ls, h.value, h.ll⟩

set_option maxHeartbeats 800000 in
theorem laid_size {H : HeapI} {N0 : Nat} {w0 w : World} {O : Nat → Nat × Nat} {s : LSt} {i t : Nat} {p : PairS} (h : LawIs H N0 w0 w O s) (ok : Ok t s) (ht : t ≤ 2000000) (hp : s.hs[i]? = some p) (n : Int) (at' : Bool) (hn : n < 1 ∨ (p.mr.pages : Int) * 32 < n) :
    Calls Tryd.prog 51 #[.pointer (some ⟨s.wB, 0, none⟩), .pointer (some ⟨p.pb, 0, none⟩), .int .i64 n, .bool at'] w fun e w' => e = .returned (.bool true) ∧ Next H N0 w0 s t w' := by
  have H1 := hide h
  have OK := hide ok
  have HP := hide hp
  have hsync := ok.sync i p hp
  have hrun := ok.runs i p hp
  have hg : Geo p.mr := by rw [← hsync]; exact H.geo (h.pair hp).2.1.1
  have BD := hide (bd_of hg hrun ht)
  obtain ⟨f0, f1⟩ := (h.pair hp).cells
  have CP := hide (H.alloc_size n at' h.glob (h.pair hp).2.1.1 (by rw [hsync]; exact hn))
  have HN := hide hn
  clear h ok hp f1 hg hn
  go_enter Tryd.func51, Tryd.ntmps51
  go_wp2_with fail
  refine (unhide CP).mono ?_
  rintro e w3 ⟨rfl, hto⟩
  obtain ⟨B', O3, _, h3⟩ := (unhide H1).imp (unhide HP) hto
  have H3 := hide h3
  have HP3 := hide (setP_at (p' := { p with B := B', mi := p.mi, c := p.c }) (unhide HP))
  obtain ⟨g0, g1⟩ := ((unhide H3).pair (unhide HP3)).cells
  have CR := hide (ahead_size p.R p.mr n at' w3 ((unhide H3).pair (unhide HP3)).2.2.1 (unhide BD) (unhide HN))
  have HF : Hid (Next H N0 w0 s t w3) := by
    refine Both.next (i := i) ⟨_, _, h3, (unhide OK).setP hsync ?_⟩
    have := hrun
    show p.mr.runs ≤ _ ∧ p.mr.since ≤ _ ∧ p.mr.kept ≤ _
    omega
  clear f0 g0 hto h3
  dsimp only at g1
  go_wp2_with fail
  refine (unhide CR).mono ?_
  rintro e w4 ⟨rfl, rfl⟩
  clear g1
  go_wp2
  go_ret
  exact ⟨rfl, unhide HF⟩

set_option maxHeartbeats 1600000 in
theorem laid_in {H : HeapI} {N0 : Nat} {w0 w : World} {O : Nat → Nat × Nat} {s : LSt} {i t : Nat} {p : PairS} (h : LawIs H N0 w0 w O s) (ok : Ok t s) (ht : t ≤ 2000000) (hp : s.hs[i]? = some p) (n : Nat) (at' : Bool) (hn : 1 ≤ n) (hn2 : n ≤ p.mr.pages * 32) :
    Calls Tryd.prog 51 #[.pointer (some ⟨s.wB, 0, none⟩), .pointer (some ⟨p.pb, 0, none⟩), .int .i64 n, .bool at'] w fun e w' => e = .returned (.bool true) ∧ Next H N0 w0 s t w' := by
  have H1 := hide h
  have OK := hide ok
  have HP := hide hp
  have hsync := ok.sync i p hp
  have hrun := ok.runs i p hp
  have hg : Geo p.mr := by rw [← hsync]; exact H.geo (h.pair hp).2.1.1
  have hpg := hg.p2
  have hgo := hg.objs
  have BD := hide (bd_of hg hrun ht)
  obtain ⟨words, hw, hw1, hw2⟩ := words_bd n hn (by omega)
  obtain ⟨f0, f1⟩ := (h.pair hp).cells
  have CP := hide (H.alloc n words at' h.glob (h.pair hp).2.1.1 (by rw [hsync]; have := hrun.1; omega) hn (by rw [hsync]; exact hn2) hw)
  rw [hsync] at CP
  have HW := hide hw
  clear h ok hp f1 hg hw
  go_enter Tryd.func51, Tryd.ntmps51
  go_wp2_with fail
  refine (unhide CP).mono ?_
  rintro e w3 ⟨m1, err, hah, hcase⟩
  have HA := hide hah
  have hgr := ahead_grown hah hgo hrun.2.2
  clear hah
  rcases hcase with ⟨hne, rfl, c', hto⟩ | ⟨rfl, x, c', rfl, hfit, hto⟩
  · obtain ⟨B', O3, _, h3⟩ := (unhide H1).imp (unhide HP) hto
    have H3 := hide h3
    have HP3 := hide (setP_at (p' := { p with B := B', mi := m1, c := c' }) (unhide HP))
    obtain ⟨g0, g1⟩ := ((unhide H3).pair (unhide HP3)).cells
    have CR := hide (ahead_any p.R p.mr n words at' w3 ((unhide H3).pair (unhide HP3)).2.2.1 (unhide BD) (by omega) hn hn2 (unhide HW) hw1 hw2)
    have hne' : (err == 0) = false := by simpa using hne
    clear f0 g0 hto h3 hne
    dsimp only at g1
    go_wp2_with fail
    refine (unhide CR).mono ?_
    rintro e w4 ⟨m2, err2, hah2, hbd2, rfl, hrt⟩
    obtain ⟨e1, e2⟩ := ahead_unique (unhide HA) hah2
    rw [← e1] at hrt
    rw [← e2]
    obtain ⟨R', O4, er, _, h4⟩ := (unhide H3).ref (unhide HP3) hrt
    have HF : Hid (Next H N0 w0 s t w4) := by
      rw [setP_setP] at h4
      refine Both.next (i := i) ⟨_, _, h4, (unhide OK).setP rfl ?_⟩
      show m1.runs ≤ _ ∧ m1.since ≤ _ ∧ m1.kept ≤ _
      omega
    clear hah2 hbd2 e1 e2 hrt h4 g1 er
    go_wp2
    go_ret
    exact ⟨rfl, unhide HF⟩
  · obtain ⟨B', O3, _, h3⟩ := (unhide H1).imp (unhide HP) hto
    have H3 := hide h3
    have HP3 := hide (setP_at (p' := { p with B := B', mi := m1.lay x words at', c := c' }) (unhide HP))
    obtain ⟨g0, g1⟩ := ((unhide H3).pair (unhide HP3)).cells
    have CR := hide (ahead_any p.R p.mr n words at' w3 ((unhide H3).pair (unhide HP3)).2.2.1 (unhide BD) (by omega) hn hn2 (unhide HW) hw1 hw2)
    have HFI := hide hfit
    clear f0 g0 hto h3 hfit
    dsimp only at g1
    go_wp2_with fail
    refine (unhide CR).mono ?_
    rintro e w4 ⟨m2, err2, hah2, hbd2, rfl, hrt⟩
    obtain ⟨e1, e2⟩ := ahead_unique (unhide HA) hah2
    rw [← e1] at hrt hbd2
    rw [← e2]
    obtain ⟨R', O4, er, _, h4⟩ := (unhide H3).ref (unhide HP3) hrt
    rw [setP_setP] at h4
    have H4 := hide h4
    have HBD := hide hbd2
    have CK := hide (kept_any h4 x (by have := (unhide OK).words; show s.words.length ≤ _; omega))
    clear hah2 hbd2 e1 e2 hrt h4 g1 er
    go_wp2_with fail
    refine (unhide CK).mono ?_
    rintro e w5 ⟨rfl, v5, O5, _, h5⟩
    have H5 := hide h5
    have HP5 : Hid (({ (s.setP i { p with B := B', mi := m1.lay x words at', c := c', R := R', mr := m1 }) with vw := v5, words := s.words ++ [x] } : LSt).hs[i]? = some { p with B := B', mi := m1.lay x words at', c := c', R := R', mr := m1 }) := setP_at (unhide HP)
    have hpr := (unhide H5).pair (unhide HP5)
    obtain ⟨_, gg1⟩ := hpr.cells
    have CL := hide (lay_true R' m1 x n words at' w5 hpr.2.2.1 (unhide HBD) hn (unhide HW) hw1 hw2 (by omega) (unhide HFI))
    dsimp only at gg1
    clear h5 hpr
    go_wp2_with fail
    refine (unhide CL).mono ?_
    rintro e w6 ⟨rfl, hrt⟩
    obtain ⟨R6, O6, _, _, h6⟩ := (unhide H5).ref (unhide HP5) hrt
    have HF : Hid (Next H N0 w0 s t w6) := by
      have hok : Ok (t + 1) (s.setP i { p with B := B', mi := m1.lay x words at', c := c', R := R6, mr := m1.lay x words at' }) := by
        refine (unhide OK).setP rfl ?_
        show m1.runs ≤ _ ∧ m1.since + words ≤ _ ∧ m1.kept ≤ _
        omega
      have e7 : (({ (s.setP i { p with B := B', mi := m1.lay x words at', c := c', R := R', mr := m1 }) with vw := v5, words := s.words ++ [x] } : LSt).setP i { p with B := B', mi := m1.lay x words at', c := c', R := R6, mr := m1.lay x words at' }) = (s.setP i { p with B := B', mi := m1.lay x words at', c := c', R := R6, mr := m1.lay x words at' }).keepW v5 x := by
        simp [LSt.setP, LSt.keepW]
      refine ⟨(s.setP i { p with B := B', mi := m1.lay x words at', c := c', R := R6, mr := m1.lay x words at' }).keepW v5 x, O6, rfl, ?_, hok.keepW v5 x (unhide OK).words⟩
      rw [← e7]
      exact h6
    clear hrt h6 gg1
    go_wp2
    go_ret
    exact ⟨rfl, unhide HF⟩
end Go.Proofs.YtgegkcjllliifabDoor
