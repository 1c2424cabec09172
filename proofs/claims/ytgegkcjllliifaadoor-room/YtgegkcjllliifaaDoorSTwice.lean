/-
  The walk of twice.
-/
import Derived.Test.YtgegkcjllliifaaDoorSTwo
import Derived.Test.YtgegkcjllliifaaDoorHWalk
namespace Go.Proofs.YtgegkcjllliifaaDoor
open Go.RowKit

theorem collect_duo (L : HL) (s : St) (w : World) (R : Rep w L s) (wf : WF s) (hc : s.colls ≤ 4611686018427387904) :
    Calls Tryd.prog 36 #[.pointer (some ⟨L.h, 0, none⟩)] w fun e w' => e = .returned (.tuple #[]) ∧ ∃ t, AheadC s t ∧ HSt w L t w' := by
  refine (collect_wf L s w R wf hc).mono ?_
  rintro e w' ⟨he, stays, black, ag, k1, k2, k3, k4, k5⟩
  exact ⟨he, _, ⟨k4, stays, black, ag, k1, k2, k3, rfl⟩, k5⟩
theorem ahead_n {s t : St} (h : AheadC s t) : t.n = s.n ∧ t.colls = s.colls + 1 := by
  obtain ⟨_, _, _, _, _, _, rfl⟩ := h.ex
  exact ⟨rfl, rfl⟩

set_option maxRecDepth 10000 in
set_option maxHeartbeats 12800000 in
theorem twice_any (x : Nat) (fr to : Int) (h1 h2 : Nat) (L1 L2 : HL) (s : St) (r a : Nat) (w0 w : World) (D : Duo w0 w h1 h2 L1 L2 s (s.rm r a)) (sn : s.n = 12) (_ : x < 1073741824) (f8 : fr % 8 = 0) (fl : 1048576 ≤ fr) (fu : fr < 1051648) (_ : 1048576 ≤ to) (_ : to < 1051648) (hc : s.colls ≤ 1000000) :
    Calls Tryd.prog 39 #[.pointer (some ⟨h1, 0, none⟩), .pointer (some ⟨h2, 0, none⟩), .int .i64 x, .int .i64 fr, .int .i64 to] w fun e w' => e = .returned (.bool true) ∧ ∃ s' a', DuoTo w0 w h1 h2 L1 L2 s' (s'.rm r a') w' ∧ s'.n = 12 ∧ s'.colls ≤ s.colls + 1 := by
  have wf := D.g.wf
  have C1 : Hid (∀ v, Calls Tryd.prog 29 #[.pointer (some ⟨h1, 0, none⟩), .int .i64 fr, .int .i64 v] w fun e w' => e = .returned (.int .i64 (s.code fr)) ∧ DuoTo w0 w h1 h2 L1 L2 (s.put fr v) (s.rm r a) w') := fun v => by
    have := put_any L1 s fr v w D.g.r wf f8 fl (by rw [sn]; omega)
    rw [D.g.e] at this
    refine this.mono ?_
    rintro e w' ⟨he, k⟩
    exact ⟨he, D.one (Fre.refl _ _ _) k (wf.put _ _)⟩
  have C2 : Hid (∀ v w1, DuoTo w0 w h1 h2 L1 L2 (s.put fr v) (s.rm r a) w1 → Calls Tryd.prog 29 #[.pointer (some ⟨h2, 0, none⟩), .int .i64 fr, .int .i64 v] w1 fun e w' => e = .returned (.int .i64 (s.code fr)) ∧ DuoTo w0 w h1 h2 L1 L2 (s.put fr v) ((s.put fr v).rm r a) w') := fun v w1 ⟨M1, M2, E, F⟩ => by
    have := put_any M2 (s.rm r a) fr v w1 E.h.r E.h.wf f8 fl (by show fr < 1048576 + 256 * (s.n : Int); rw [sn]; omega)
    rw [E.h.e] at this
    refine this.mono ?_
    rintro e w' ⟨he, k⟩
    refine ⟨he, ?_⟩
    rw [← put_rm]
    exact E.two F k (E.h.wf.put _ _)
  have C3 : Hid (∀ v w1, DuoTo w0 w h1 h2 L1 L2 (s.put fr v) ((s.put fr v).rm r a) w1 → Calls Tryd.prog 32 #[.pointer (some ⟨h1, 0, none⟩), .int .i64 fr] w1 fun e w' => e = .returned (.tuple #[.int .i64 ((s.put fr v).get fr), .int .i64 ((s.put fr v).code fr)]) ∧ DuoTo w0 w h1 h2 L1 L2 (s.put fr v) ((s.put fr v).rm r a) w') := fun v w1 ⟨M1, M2, E, F⟩ => by
    have := get_any M1 (s.put fr v) fr w1 E.g.r E.g.wf f8 fl (by rw [(put_n s fr v).1, sn]; omega)
    rw [E.g.e] at this
    refine this.mono ?_
    rintro e w' ⟨he, b⟩
    exact ⟨he, E.quiet F b⟩
  have C4 : Hid (∀ v w1, DuoTo w0 w h1 h2 L1 L2 (s.put fr v) ((s.put fr v).rm r a) w1 → Calls Tryd.prog 32 #[.pointer (some ⟨h2, 0, none⟩), .int .i64 fr] w1 fun e w' => e = .returned (.tuple #[.int .i64 ((s.put fr v).get fr), .int .i64 ((s.put fr v).code fr)]) ∧ DuoTo w0 w h1 h2 L1 L2 (s.put fr v) ((s.put fr v).rm r a) w') := fun v w1 ⟨M1, M2, E, F⟩ => by
    have := get_any M2 ((s.put fr v).rm r a) fr w1 E.h.r E.h.wf f8 fl (by show fr < 1048576 + 256 * ((s.put fr v).n : Int); rw [(put_n s fr v).1, sn]; omega)
    rw [E.h.e] at this
    refine this.mono ?_
    rintro e w' ⟨he, b⟩
    exact ⟨he, E.quiet F b⟩
  have PN : Hid (∀ v, (s.put fr v).n = 12 ∧ (s.put fr v).colls = s.colls) := fun v => ⟨(put_n s fr v).1.trans sn, (put_n s fr v).2⟩
  have HC := hide hc
  clear D wf hc
  go_enter Tryd.func39, Tryd.ntmps39
  go_wp2_with fail
  refine (unhide C1 _).mono ?_
  rintro e w1 ⟨rfl, d1⟩
  have CC2 := hide (unhide C2 _ w1 d1)
  clear d1 C1 C2
  go_wp2_with fail
  refine (unhide CC2).mono ?_
  rintro e w2 ⟨rfl, d2⟩
  have CC3 := hide (unhide C3 _ w2 d2)
  clear d2 C3 CC2
  go_wp2_with fail
  refine (unhide CC3).mono ?_
  rintro e w3 ⟨rfl, d3⟩
  have CC4 := hide (unhide C4 _ w3 d3)
  clear d3 C4 CC3
  go_wp2_with fail
  refine (unhide CC4).mono ?_
  rintro e w4 ⟨rfl, d4⟩
  clear CC4
  obtain ⟨un, uc⟩ := unhide PN (wrap64 (to + bits BinOp.and IntKind.i64 ((x : Int) / 131072) 7))
  generalize s.put fr (wrap64 (to + bits BinOp.and IntKind.i64 ((x : Int) / 131072) 7)) = u at *
  generalize s.code fr = cd1 at *
  generalize u.get fr = gv at *
  generalize u.code fr = cd2 at *
  have D4 := hide d4
  have UN := hide un
  have UC : Hid (u.colls ≤ 1000000 ∧ u.colls ≤ s.colls) := hide (by have := unhide HC; omega)
  have q1 : (cd1 != cd1) = false := by simp
  have q2 : (gv != gv) = false := by simp
  have q3 : (cd2 != cd2) = false := by simp
  obtain ⟨cv, hcv⟩ : ∃ cv : Int, bits BinOp.and IntKind.i64 ((x : Int) / 1048576) 15 = cv := ⟨_, rfl⟩
  clear d4 un uc PN HC
  by_cases m0 : cv = 0
  · have p0 : (cv == 0) = true := by simpa using m0
    clear m0
    have CA : Hid (∀ w1, DuoTo w0 w h1 h2 L1 L2 u (u.rm r a) w1 → Calls Tryd.prog 27 #[.pointer (some ⟨h1, 0, none⟩), .int .i64 to] w1 fun e w' => e = .returned (.int .i64 u.pushC) ∧ DuoTo w0 w h1 h2 L1 L2 (u.pushF to) (u.rm r a) w') := fun w1 ⟨M1, M2, E, F⟩ => by
      have := push_any M1 u to w1 E.g.r
      rw [E.g.e] at this
      refine this.mono ?_
      rintro e w' ⟨he, k⟩
      exact ⟨he, E.one F k (E.g.wf.pushF to)⟩
    have CB : Hid (∀ w1, DuoTo w0 w h1 h2 L1 L2 (u.pushF to) (u.rm r a) w1 → Calls Tryd.prog 27 #[.pointer (some ⟨h2, 0, none⟩), .int .i64 to] w1 fun e w' => e = .returned (.int .i64 u.pushC) ∧ DuoTo w0 w h1 h2 L1 L2 (u.pushF to) ((u.pushF to).rm r a) w') := fun w1 ⟨M1, M2, E, F⟩ => by
      have := push_any M2 (u.rm r a) to w1 E.h.r
      rw [E.h.e] at this
      refine this.mono ?_
      rintro e w' ⟨he, k⟩
      refine ⟨he, ?_⟩
      rw [← pushF_rm u r a to]
      exact E.two F k (E.h.wf.pushF to)
    have CCA := hide (unhide CA w4 (unhide D4))
    go_wp2_with fail
    refine (unhide CCA).mono ?_
    rintro e w5 ⟨rfl, d5⟩
    have CCB := hide (unhide CB w5 d5)
    clear d5 CA CCA
    go_wp2_with fail
    refine (unhide CCB).mono ?_
    rintro e w6 ⟨rfl, d6⟩
    have HF : Hid (∃ s' a', DuoTo w0 w h1 h2 L1 L2 s' (s'.rm r a') w6 ∧ s'.n = 12 ∧ s'.colls ≤ s.colls + 1) := hide ⟨(u.pushF to), a, d6, (pushF_n u to).1.trans (unhide UN), by rw [(pushF_n u to).2]; have := (unhide UC).2; omega⟩
    clear d6 CCB CB
    go_wp2
    go_ret
    exact ⟨rfl, unhide HF⟩
  · skip
    by_cases m1 : cv = 1
    · have p1 : (cv == 1) = true := by simpa using m1
      have n0 : (cv == 0) = false := by simpa using m0
      clear m1
      have CA : Hid (∀ w1, DuoTo w0 w h1 h2 L1 L2 u (u.rm r a) w1 → Calls Tryd.prog 27 #[.pointer (some ⟨h1, 0, none⟩), .int .i64 to] w1 fun e w' => e = .returned (.int .i64 u.pushC) ∧ DuoTo w0 w h1 h2 L1 L2 (u.pushF to) (u.rm r a) w') := fun w1 ⟨M1, M2, E, F⟩ => by
        have := push_any M1 u to w1 E.g.r
        rw [E.g.e] at this
        refine this.mono ?_
        rintro e w' ⟨he, k⟩
        exact ⟨he, E.one F k (E.g.wf.pushF to)⟩
      have CB : Hid (∀ w1, DuoTo w0 w h1 h2 L1 L2 (u.pushF to) (u.rm r a) w1 → Calls Tryd.prog 27 #[.pointer (some ⟨h2, 0, none⟩), .int .i64 to] w1 fun e w' => e = .returned (.int .i64 u.pushC) ∧ DuoTo w0 w h1 h2 L1 L2 (u.pushF to) ((u.pushF to).rm r a) w') := fun w1 ⟨M1, M2, E, F⟩ => by
        have := push_any M2 (u.rm r a) to w1 E.h.r
        rw [E.h.e] at this
        refine this.mono ?_
        rintro e w' ⟨he, k⟩
        refine ⟨he, ?_⟩
        rw [← pushF_rm u r a to]
        exact E.two F k (E.h.wf.pushF to)
      have CCA := hide (unhide CA w4 (unhide D4))
      go_wp2_with fail
      refine (unhide CCA).mono ?_
      rintro e w5 ⟨rfl, d5⟩
      have CCB := hide (unhide CB w5 d5)
      clear d5 CA CCA
      go_wp2_with fail
      refine (unhide CCB).mono ?_
      rintro e w6 ⟨rfl, d6⟩
      have HF : Hid (∃ s' a', DuoTo w0 w h1 h2 L1 L2 s' (s'.rm r a') w6 ∧ s'.n = 12 ∧ s'.colls ≤ s.colls + 1) := hide ⟨(u.pushF to), a, d6, (pushF_n u to).1.trans (unhide UN), by rw [(pushF_n u to).2]; have := (unhide UC).2; omega⟩
      clear d6 CCB CB
      go_wp2
      go_ret
      exact ⟨rfl, unhide HF⟩
    · skip
      by_cases m2 : cv = 2
      · have p2 : (cv == 2) = true := by simpa using m2
        have n0 : (cv == 0) = false := by simpa using m0
        have n1 : (cv == 1) = false := by simpa using m1
        clear m2
        obtain ⟨M1, M2, E, F⟩ := unhide D4
        have CX := collect_duo M1 u w4 E.g.r E.g.wf (by have := (unhide UC).1; omega)
        rw [E.g.e] at CX
        have CCX := hide CX
        have EE := hide E
        have FF := hide F
        clear CX E F
        go_wp2_with fail
        refine (unhide CCX).mono ?_
        rintro e w5 ⟨rfl, t, ha, k5⟩
        obtain ⟨N1, N2, E2, F2⟩ := (unhide EE).one (unhide FF) k5 ha.wf
        have CY := collect_duo N2 (u.rm r a) w5 E2.h.r E2.h.wf (by show u.colls ≤ _; have := (unhide UC).1; omega)
        rw [E2.h.e] at CY
        have CCY := hide CY
        have HA := hide ha
        have EE2 := hide E2
        have FF2 := hide F2
        clear CY E2 F2 ha k5 CCX EE FF
        go_wp2_with fail
        refine (unhide CCY).mono ?_
        rintro e w6 ⟨rfl, t', ha', k6⟩
        obtain ⟨a', et⟩ := ahead_rm (unhide HA) ha'
        subst et
        have HF : Hid (∃ s' a', DuoTo w0 w h1 h2 L1 L2 s' (s'.rm r a') w6 ∧ s'.n = 12 ∧ s'.colls ≤ s.colls + 1) := hide ⟨t, a', (unhide EE2).two (unhide FF2) k6 ha'.wf, (ahead_n (unhide HA)).1.trans (unhide UN), by rw [(ahead_n (unhide HA)).2]; have := (unhide UC).2; omega⟩
        clear k6 ha' CCY
        go_wp2
        go_ret
        exact ⟨rfl, unhide HF⟩
      · skip
        by_cases m3 : cv = 3
        · have p3 : (cv == 3) = true := by simpa using m3
          have n0 : (cv == 0) = false := by simpa using m0
          have n1 : (cv == 1) = false := by simpa using m1
          have n2 : (cv == 2) = false := by simpa using m2
          clear m3
          have CA : Hid (∀ w1, DuoTo w0 w h1 h2 L1 L2 u (u.rm r a) w1 → Calls Tryd.prog 43 #[.pointer (some ⟨h1, 0, none⟩), .int .i64 to] w1 fun e w' => e = .returned (.int .i64 (u.freeC to)) ∧ DuoTo w0 w h1 h2 L1 L2 (u.freeF to) (u.rm r a) w') := fun w1 ⟨M1, M2, E, F⟩ => by
            have := free_any M1 u to w1 E.g.r E.g.wf
            rw [E.g.e] at this
            refine this.mono ?_
            rintro e w' ⟨he, k⟩
            exact ⟨he, E.one F k (E.g.wf.freeF to)⟩
          have CB : Hid (∀ w1, DuoTo w0 w h1 h2 L1 L2 (u.freeF to) (u.rm r a) w1 → Calls Tryd.prog 43 #[.pointer (some ⟨h2, 0, none⟩), .int .i64 to] w1 fun e w' => e = .returned (.int .i64 (u.freeC to)) ∧ DuoTo w0 w h1 h2 L1 L2 (u.freeF to) ((u.freeF to).rm r a) w') := fun w1 ⟨M1, M2, E, F⟩ => by
            have := free_any M2 (u.rm r a) to w1 E.h.r E.h.wf
            rw [E.h.e] at this
            refine this.mono ?_
            rintro e w' ⟨he, k⟩
            refine ⟨he, ?_⟩
            rw [← freeF_rm u r a to]
            exact E.two F k (E.h.wf.freeF to)
          have CCA := hide (unhide CA w4 (unhide D4))
          go_wp2_with fail
          refine (unhide CCA).mono ?_
          rintro e w5 ⟨rfl, d5⟩
          have CCB := hide (unhide CB w5 d5)
          clear d5 CA CCA
          go_wp2_with fail
          refine (unhide CCB).mono ?_
          rintro e w6 ⟨rfl, d6⟩
          have HF : Hid (∃ s' a', DuoTo w0 w h1 h2 L1 L2 s' (s'.rm r a') w6 ∧ s'.n = 12 ∧ s'.colls ≤ s.colls + 1) := hide ⟨(u.freeF to), a, d6, (freeF_n u to).1.trans (unhide UN), by rw [(freeF_n u to).2]; have := (unhide UC).2; omega⟩
          clear d6 CCB CB
          go_wp2
          go_ret
          exact ⟨rfl, unhide HF⟩
        · skip
          by_cases m4 : cv = 4
          · have p4 : (cv == 4) = true := by simpa using m4
            have n0 : (cv == 0) = false := by simpa using m0
            have n1 : (cv == 1) = false := by simpa using m1
            have n2 : (cv == 2) = false := by simpa using m2
            have n3 : (cv == 3) = false := by simpa using m3
            clear m4
            have CA : Hid (∀ w1, DuoTo w0 w h1 h2 L1 L2 u (u.rm r a) w1 → Calls Tryd.prog 53 #[.pointer (some ⟨h1, 0, none⟩), .int .i64 1] w1 fun e w' => e = .returned (.tuple #[]) ∧ DuoTo w0 w h1 h2 L1 L2 (u.swept 1) (u.rm r a) w') := fun w1 ⟨M1, M2, E, F⟩ => by
              have := (sweep_any M1 u 1 w1 E.g.r E.g.wf (by omega) (by omega)).mono (fun e w' h => (⟨h.1, HSt.of h.2.1 h.2.2⟩ : e = .returned (.tuple #[]) ∧ HSt w1 M1 (St.swept u 1) w'))
              rw [E.g.e] at this
              refine this.mono ?_
              rintro e w' ⟨he, k⟩
              exact ⟨he, E.one F k (swept_to E.g.wf 1).wf⟩
            have CB : Hid (∀ w1, DuoTo w0 w h1 h2 L1 L2 (u.swept 1) (u.rm r a) w1 → Calls Tryd.prog 53 #[.pointer (some ⟨h2, 0, none⟩), .int .i64 1] w1 fun e w' => e = .returned (.tuple #[]) ∧ DuoTo w0 w h1 h2 L1 L2 (u.swept 1) ((u.swept 1).rm r a) w') := fun w1 ⟨M1, M2, E, F⟩ => by
              have := (sweep_any M2 (u.rm r a) 1 w1 E.h.r E.h.wf (by omega) (by omega)).mono (fun e w' h => (⟨h.1, HSt.of h.2.1 h.2.2⟩ : e = .returned (.tuple #[]) ∧ HSt w1 M2 (St.swept (u.rm r a) 1) w'))
              rw [E.h.e] at this
              refine this.mono ?_
              rintro e w' ⟨he, k⟩
              refine ⟨he, ?_⟩
              rw [← swept_rm u r a 1]
              exact E.two F k (swept_to E.h.wf 1).wf
            have CCA := hide (unhide CA w4 (unhide D4))
            go_wp2_with fail
            refine (unhide CCA).mono ?_
            rintro e w5 ⟨rfl, d5⟩
            have CCB := hide (unhide CB w5 d5)
            clear d5 CA CCA
            go_wp2_with fail
            refine (unhide CCB).mono ?_
            rintro e w6 ⟨rfl, d6⟩
            have HF : Hid (∃ s' a', DuoTo w0 w h1 h2 L1 L2 s' (s'.rm r a') w6 ∧ s'.n = 12 ∧ s'.colls ≤ s.colls + 1) := hide ⟨(u.swept 1), a, d6, ((swept_to (s := u) (by obtain ⟨_, _, E, _⟩ := unhide D4; exact E.g.wf) 1).n).trans (unhide UN), by rw [(swept_to (s := u) (by obtain ⟨_, _, E, _⟩ := unhide D4; exact E.g.wf) 1).colls]; have := (unhide UC).2; omega⟩
            clear d6 CCB CB
            go_wp2
            go_ret
            exact ⟨rfl, unhide HF⟩
          · skip
            by_cases m5 : cv = 5
            · have p5 : (cv == 5) = true := by simpa using m5
              have n0 : (cv == 0) = false := by simpa using m0
              have n1 : (cv == 1) = false := by simpa using m1
              have n2 : (cv == 2) = false := by simpa using m2
              have n3 : (cv == 3) = false := by simpa using m3
              have n4 : (cv == 4) = false := by simpa using m4
              clear m5
              have CA : Hid (∀ w1, DuoTo w0 w h1 h2 L1 L2 u (u.rm r a) w1 → Calls Tryd.prog 44 #[.pointer (some ⟨h1, 0, none⟩)] w1 fun e w' => e = .returned (.tuple #[.int .i64 u.popV, .int .i64 u.popC]) ∧ DuoTo w0 w h1 h2 L1 L2 u.popF (u.rm r a) w') := fun w1 ⟨M1, M2, E, F⟩ => by
                have := pop_any M1 u w1 E.g.r
                rw [E.g.e] at this
                refine this.mono ?_
                rintro e w' ⟨he, k⟩
                exact ⟨he, E.one F k E.g.wf.popF⟩
              have CB : Hid (∀ w1, DuoTo w0 w h1 h2 L1 L2 u.popF (u.rm r a) w1 → Calls Tryd.prog 44 #[.pointer (some ⟨h2, 0, none⟩)] w1 fun e w' => e = .returned (.tuple #[.int .i64 u.popV, .int .i64 u.popC]) ∧ DuoTo w0 w h1 h2 L1 L2 u.popF (u.popF.rm r a) w') := fun w1 ⟨M1, M2, E, F⟩ => by
                have := pop_any M2 (u.rm r a) w1 E.h.r
                rw [E.h.e] at this
                refine this.mono ?_
                rintro e w' ⟨he, k⟩
                refine ⟨he, ?_⟩
                rw [← show (u.rm r a).popF = u.popF.rm r a from rfl]
                exact E.two F k E.h.wf.popF
              have CCA := hide (unhide CA w4 (unhide D4))
              go_wp2_with fail
              refine (unhide CCA).mono ?_
              rintro e w5 ⟨rfl, d5⟩
              have CCB := hide (unhide CB w5 d5)
              clear d5 CA CCA
              go_wp2_with fail
              refine (unhide CCB).mono ?_
              rintro e w6 ⟨rfl, d6⟩
              have HF : Hid (∃ s' a', DuoTo w0 w h1 h2 L1 L2 s' (s'.rm r a') w6 ∧ s'.n = 12 ∧ s'.colls ≤ s.colls + 1) := hide ⟨u.popF, a, d6, unhide UN, by show u.colls ≤ _; have := (unhide UC).2; omega⟩
              clear d6 CCB CB
              go_wp2
              go_ret
              exact ⟨rfl, unhide HF⟩
            · skip
              by_cases m6 : cv = 6
              · have p6 : (cv == 6) = true := by simpa using m6
                have n0 : (cv == 0) = false := by simpa using m0
                have n1 : (cv == 1) = false := by simpa using m1
                have n2 : (cv == 2) = false := by simpa using m2
                have n3 : (cv == 3) = false := by simpa using m3
                have n4 : (cv == 4) = false := by simpa using m4
                have n5 : (cv == 5) = false := by simpa using m5
                clear m6
                have CA : Hid (∀ w1, DuoTo w0 w h1 h2 L1 L2 u (u.rm r a) w1 → Calls Tryd.prog 30 #[.pointer (some ⟨h1, 0, none⟩), .int .i64 1, .int .i64 to] w1 fun e w' => e = .returned (.int .i64 u.setC) ∧ DuoTo w0 w h1 h2 L1 L2 (u.setF to) (u.rm r a) w') := fun w1 ⟨M1, M2, E, F⟩ => by
                  have := set_any M1 u to w1 E.g.r
                  rw [E.g.e] at this
                  refine this.mono ?_
                  rintro e w' ⟨he, k⟩
                  exact ⟨he, E.one F k (E.g.wf.setF to)⟩
                have CB : Hid (∀ w1, DuoTo w0 w h1 h2 L1 L2 (u.setF to) (u.rm r a) w1 → Calls Tryd.prog 30 #[.pointer (some ⟨h2, 0, none⟩), .int .i64 1, .int .i64 to] w1 fun e w' => e = .returned (.int .i64 u.setC) ∧ DuoTo w0 w h1 h2 L1 L2 (u.setF to) ((u.setF to).rm r a) w') := fun w1 ⟨M1, M2, E, F⟩ => by
                  have := set_any M2 (u.rm r a) to w1 E.h.r
                  rw [E.h.e] at this
                  refine this.mono ?_
                  rintro e w' ⟨he, k⟩
                  refine ⟨he, ?_⟩
                  rw [← setF_rm u r a to]
                  exact E.two F k (E.h.wf.setF to)
                have CCA := hide (unhide CA w4 (unhide D4))
                go_wp2_with fail
                refine (unhide CCA).mono ?_
                rintro e w5 ⟨rfl, d5⟩
                have CCB := hide (unhide CB w5 d5)
                clear d5 CA CCA
                go_wp2_with fail
                refine (unhide CCB).mono ?_
                rintro e w6 ⟨rfl, d6⟩
                have HF : Hid (∃ s' a', DuoTo w0 w h1 h2 L1 L2 s' (s'.rm r a') w6 ∧ s'.n = 12 ∧ s'.colls ≤ s.colls + 1) := hide ⟨(u.setF to), a, d6, (setF_n u to).1.trans (unhide UN), by rw [(setF_n u to).2]; have := (unhide UC).2; omega⟩
                clear d6 CCB CB
                go_wp2
                go_ret
                exact ⟨rfl, unhide HF⟩
              · skip
                by_cases m7 : cv = 7
                · have p7 : (cv == 7) = true := by simpa using m7
                  have n0 : (cv == 0) = false := by simpa using m0
                  have n1 : (cv == 1) = false := by simpa using m1
                  have n2 : (cv == 2) = false := by simpa using m2
                  have n3 : (cv == 3) = false := by simpa using m3
                  have n4 : (cv == 4) = false := by simpa using m4
                  have n5 : (cv == 5) = false := by simpa using m5
                  have n6 : (cv == 6) = false := by simpa using m6
                  clear m7
                  obtain ⟨M1, M2, E, F⟩ := unhide D4
                  obtain ⟨c1, hc1⟩ : ∃ c : Int, ((cntF u.beg (u.n * 32) : Nat) : Int) = c := ⟨_, rfl⟩
                  obtain ⟨c2, hc2⟩ : ∃ c : Int, sumW u (u.n * 32) = c := ⟨_, rfl⟩
                  obtain ⟨c3, hc3⟩ : ∃ c : Int, (u.colls : Int) = c := ⟨_, rfl⟩
                  obtain ⟨c4, hc4⟩ : ∃ c : Int, (u.again : Int) = c := ⟨_, rfl⟩
                  obtain ⟨c5, hc5⟩ : ∃ c : Int, ((cntF (fun p => u.size p != 0) u.n : Nat) : Int) = c := ⟨_, rfl⟩
                  obtain ⟨c6, hc6⟩ : ∃ c : Int, ((cntF u.uns u.n : Nat) : Int) = c := ⟨_, rfl⟩
                  obtain ⟨c7, hc7⟩ : ∃ c : Int, ((a : Nat) : Int) = c := ⟨_, rfl⟩
                  have CK := counts_any M1 u w4 E.g.r (fun p hp => ⟨E.g.wf.z0 p hp, E.g.wf.z1 p hp⟩)
                  rw [E.g.e, hc1, hc2, hc3, hc4, hc5, hc6] at CK
                  have CCK := hide CK
                  have CK2 : Hid (∀ w1, Below w4.heap.size w4 w1 → Calls Tryd.prog 42 #[.pointer (some ⟨h2, 0, none⟩)] w1 fun e w' => e = .returned (.agg #[.int .i64 c1, .int .i64 c2, .int .i64 c3, .int .i64 c7, .int .i64 c5, .int .i64 c6]) ∧ Below w1.heap.size w1 w') := fun w1 b => by
                    have h := E.h.below b
                    have := counts_any M2 (u.rm r a) w1 h.r (fun p hp => ⟨h.wf.z0 p hp, h.wf.z1 p hp⟩)
                    rw [h.e, sumW_rm] at this
                    rw [← hc1, ← hc2, ← hc3, ← hc5, ← hc6, ← hc7]
                    exact this
                  have HQ : Hid (∀ X, Below w4.heap.size w4 X → ∃ s' a', DuoTo w0 w h1 h2 L1 L2 s' (s'.rm r a') X ∧ s'.n = 12 ∧ s'.colls ≤ s.colls + 1) := hide fun X b => ⟨u, a, E.quiet F b, unhide UN, by have := (unhide UC).2; omega⟩
                  clear CK hc1 hc2 hc3 hc4 hc5 hc6 hc7 E F
                  go_wp2_with fail
                  refine (unhide CCK).mono ?_
                  rintro e w5 ⟨rfl, b5⟩
                  obtain ⟨W5, e5, g5, bb5⟩ : ∃ W5, w5.alloc (.cells #[.int .i64 c1, .int .i64 c2, .int .i64 c3, .int .i64 c4, .int .i64 c5, .int .i64 c6] 42) = W5 ∧ W5.heap[w5.heap.size]? = some (ctObj c1 c2 c3 c4 c5 c6) ∧ Below w4.heap.size w4 W5 := ⟨_, rfl, heap_alloc_new w5 _, b5.alloc b5.size _⟩
                  have z5 := b5.size
                  have E5 := hide e5
                  have G5 := hide g5
                  have BB5 := hide bb5
                  have CCK2 := hide (unhide CK2 W5 bb5)
                  clear b5 e5 g5 bb5 CCK CK2
                  go_wp2_with fail
                  rw [unhide E5]
                  refine (unhide CCK2).mono ?_
                  rintro e w6 ⟨rfl, b6⟩
                  have g6 := (b6.block _ (heap_lt (unhide G5))).trans (unhide G5)
                  have hlt6 := heap_lt g6
                  obtain ⟨p0, p1, p2, p3, p4, p5, pz⟩ := ctObj_cells g6
                  have BB6 : Hid (Below w4.heap.size w4 w6) := hide ((unhide BB5).trans (b6.mono (unhide BB5).size))
                  clear b6 g6 CCK2 E5
                  go_wp2
                  go_ret
                  refine ⟨rfl, unhide HQ _ ?_⟩
                  have hz := (unhide BB6).size
                  exact ((unhide BB6).trans (below_setB _ _ _ _ _ z5)).alloc (by simpa using hz) _
                · skip
                  have n0 : (cv == 0) = false := by simpa using m0
                  have n1 : (cv == 1) = false := by simpa using m1
                  have n2 : (cv == 2) = false := by simpa using m2
                  have n3 : (cv == 3) = false := by simpa using m3
                  have n4 : (cv == 4) = false := by simpa using m4
                  have n5 : (cv == 5) = false := by simpa using m5
                  have n6 : (cv == 6) = false := by simpa using m6
                  have n7 : (cv == 7) = false := by simpa using m7
                  have HF : Hid (∃ s' a', DuoTo w0 w h1 h2 L1 L2 s' (s'.rm r a') w4 ∧ s'.n = 12 ∧ s'.colls ≤ s.colls + 1) := hide ⟨u, a, unhide D4, unhide UN, by have := (unhide UC).2; omega⟩
                  go_wp2
                  go_ret
                  exact ⟨rfl, unhide HF⟩
end Go.Proofs.YtgegkcjllliifaaDoor
