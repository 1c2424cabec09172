/-
  The walks of zero and Zero.
-/
import Derived.Test.YtgegkcjllliifaaDoorHLoad
import Derived.Test.YtgegkcjllliifaaDoorHMore
namespace Go.Proofs.YtgegkcjllliifaaDoor
open Go.RowKit

theorem WF.word {s : St} (h : WF s) (f : Nat → Int) : WF { s with word := f } := ⟨h.z0, h.z1, h.sm, h.gm, h.gb, h.gr, h.bg, h.un, h.uz⟩
/-- Where an object has gone nothing lies. -/
theorem DropTo.gone {s t : St} {k : Nat} (h : DropTo s k t) (wf : WF s) (x : Int) (hx : s.at x = some k) : t.at x = none := by
  rw [at_none h.wf]
  intro j hj hl
  rw [h.beg] at hj
  by_cases e : j = k
  · rw [e, upd_same] at hj; cases hj
  · rw [upd_other _ _ _ _ e] at hj
    have hjl := (wf.bg j hj).1
    rcases h.page (j / 32) (by omega) with ⟨a, _, _⟩ | ⟨a, _⟩
    · have : s.at x = some j := by
        rw [at_iff wf]
        refine ⟨hj, ?_⟩
        unfold St.lies at hl ⊢
        rw [a] at hl
        exact hl
      rw [this] at hx
      cases hx
      exact e rfl
    · unfold St.lies at hl
      rw [a] at hl
      omega
theorem Loose.nil {s : St} (h : s.roots = []) (hb : ∀ p, s.blk p = false) : Loose s := ⟨fun x hx => (by rw [h] at hx; cases hx), hb⟩

set_option maxRecDepth 10000 in
set_option maxHeartbeats 3200000 in
theorem zero_any (n : Nat) (hand : Bool) (w : World) (hT : Tab w) (n1 : 1 ≤ n) (n2 : n ≤ 128) :
    Calls Tryd.prog 23 #[.int .i64 n, .bool hand] w fun e w' => e = .returned (.bool true) ∧ Below w.heap.size w w' := by
  have T := hide hT
  have Q := hide (quiet_any 4 2 w (by omega) (by omega) (by omega) (by omega))
  obtain ⟨sz, z1, z2, z3, z4, z5⟩ := size_bd n n1
  have z6 : sz ≤ 128 := by
    by_cases c : 16 < sz
    · have := (z4 c).1; omega
    · omega
  have Z1 := hide z1
  clear hT z1 z3 z4 z5
  go_enter Tryd.func23, Tryd.ntmps23
  go_wp2_with fail
  refine (unhide Q).mono ?_
  rintro e wn ⟨hb, rfl, hnew⟩
  obtain ⟨L0, h0⟩ := Hg.new (unhide T) (Below.refl _ _) hnew
  have H0 := hide h0
  clear hnew h0
  go_wp2
  go_loopw [6] (fun i wr => ∃ (k : Nat) (L : HL) (s : St), k ≤ 30 ∧ i = .int .i64 k ∧ Hid (s.n = 4) ∧ Hid (s.roots = []) ∧ Hid (∀ p, s.blk p = false) ∧ Hid (s.colls ≤ 2 * k) ∧ Hid (Hg w wr hb L s)) (fun i _ => 100 - (intOf i).toNat)
  case atStart => exact ⟨0, L0, _, by omega, rfl, hide rfl, hide rfl, hide (fun _ => rfl), hide (Nat.le_refl _), H0⟩
  case round =>
    clear H0
    obtain ⟨k, L, s, hk, rfl, SN, RT, BK, CO, HD⟩ := hrel
    by_cases hlt : k < 30
    · have C1 : Hid (∀ at0, Calls Tryd.prog 28 #[.pointer (some ⟨hb, 0, none⟩), .int .i64 n, .bool at0] wr fun e w' => ∃ (kk : Nat) (L' : HL) (t' : St), e = .returned (.tuple #[.int .i64 (1048576 + (kk : Int) * 8), .int .i64 0]) ∧ kk + sz ≤ 128 ∧ Hid (Hg w w' hb L' t') ∧ Hid (t'.n = 4) ∧ Hid (t'.roots = []) ∧ Hid (∀ p, t'.blk p = false) ∧ Hid (t'.colls ≤ 2 * k + 1) ∧ Hid (t'.size (kk / 32) = sz) ∧ Hid (∀ x : Int, 1048576 + 8 * (kk : Int) ≤ x → x < 1048576 + 8 * (kk : Int) + 8 * (sz : Int) → t'.at x = some kk) ∧ Hid (∀ q, kk ≤ q → q < kk + sz → t'.word q = 0) ∧ Hid (t'.beg kk = true)) := by
        intro at0
        refine (hg_loose (unhide HD) (Loose.nil (unhide RT) (unhide BK)) (by have := unhide CO; omega) n sz at0 n1 (by rw [unhide SN]; omega) (unhide Z1)).mono ?_
        rintro e w' ⟨kk, L', t, t', he, g, l, wt, tn, tb, tr, tt, tc, _⟩
        have := unhide CO
        have hll := l.lt
        rw [tn, unhide SN] at hll
        refine ⟨kk, L', t', he, hll, g, l.n.trans (tn.trans (unhide SN)), l.roots.trans (tr.trans (unhide RT)), fun p => by rw [l.blk]; exact tb p, hide (by rw [l.colls]; omega), (l.sizeNew (by omega)).1, fun x x1 x2 => ?_, fun q q1 q2 => ?_, l.begNew⟩
        · rw [l.at wt (by omega), if_pos ⟨x1, x2⟩]
        · rw [l.word]; exact if_pos ⟨q1, q2⟩
      clear HD SN RT BK CO
      go_wp2_with fail
      refine (unhide C1 _).mono ?_
      rintro e w1 ⟨kk, L', t', rfl, hkk, H1, SN, RT, BK, CO, SZ, AT, WD, BG⟩
      clear C1
      have CS := hSize_some L' t' (1048576 + (kk : Int) * 8) w1 (unhide H1).r (unhide H1).wf.ok kk (unhide AT _ (by omega) (by omega))
      rw [(unhide H1).e, unhide SZ] at CS
      have CCS := hide CS
      clear CS
      go_wp2_with fail
      refine (unhide CCS).mono ?_
      rintro e w2 ⟨rfl, b2⟩
      have H2 := hide ((unhide H1).below b2)
      clear b2 H1 CCS
      go_wp2
      go_loopw [11] (fun i wr => ∃ (i' : Nat) (wd : Nat → Int), i' ≤ sz ∧ i = .int .i64 i' ∧ Hid (∀ q, kk + i' ≤ q → q < kk + sz → wd q = 0) ∧ Hid (Hg w wr hb L' { t' with word := wd })) (fun i _ => 1000 - (intOf i).toNat)
      case atStart => exact ⟨0, t'.word, by omega, rfl, hide (fun q q1 q2 => unhide WD q (by omega) q2), H2⟩
      case round =>
        clear H2 WD
        obtain ⟨i, wd, hi, rfl, WD, HI⟩ := hrel
        by_cases hlt2 : i < sz
        · have hat : St.at { t' with word := wd } (1048576 + (kk : Int) * 8 + 8 * (i : Int)) = some kk := unhide AT _ (by omega) (by omega)
          have CL := hLoad_ok L' _ (1048576 + (kk : Int) * 8 + 8 * (i : Int)) (kk + i) kk _ (unhide HI).r (unhide HI).wf.ok (by omega) hat (by omega) (by omega) (by show kk + i < t'.n * 32; rw [unhide SN]; omega)
          rw [(unhide HI).e, show St.word { t' with word := wd } (kk + i) = 0 from unhide WD _ (by omega) (by omega)] at CL
          have CCL := hide CL
          have HAT := hide hat
          clear CL hat
          go_wp2_with fail
          refine (unhide CCL).mono ?_
          rintro e w3 ⟨rfl, b3⟩
          have h3 := (unhide HI).below b3
          have CT := hStore_ok L' _ (1048576 + (kk : Int) * 8 + 8 * (i : Int)) (-1) (kk + i) kk w3 h3.r h3.wf.ok (by omega) (unhide HAT) (by omega) (by omega) (by show kk + i < t'.n * 32; rw [unhide SN]; omega)
          rw [h3.e] at CT
          have CCT := hide CT
          have H3 := hide h3
          clear b3 h3 CT CCL
          go_wp2_with fail
          refine (unhide CCT).mono ?_
          rintro e w4 ⟨rfl, r4, t4⟩
          have h4 : Hid (Hg w w4 hb L' { t' with word := upd wd (kk + i) (-1) }) := hide ((unhide H3).touch r4 ((unhide H3).wf.setWd _ _) t4)
          have WD4 : Hid (∀ q, kk + (i + 1) ≤ q → q < kk + sz → upd wd (kk + i) (-1) q = 0) := hide (fun q q1 q2 => by rw [upd_other _ _ _ _ (by omega)]; exact unhide WD q (by omega) q2)
          clear r4 t4 CCT
          go_wp2
          go_roundw
          case rel => exact ⟨i + 1, upd wd (kk + i) (-1), by omega, by go_num, WD4, h4⟩
          case measure => simp [intOf]; omega
        · cases hand
          · by_cases c5 : k % 5 = 4
            · have c5' : (k : Int) % 5 = 4 := by omega
              have CC := collect_wf L' _ wr (unhide HI).r (unhide HI).wf (by show t'.colls ≤ _; have := unhide CO; omega)
              rw [(unhide HI).e] at CC
              have CCC := hide CC
              clear CC c5
              go_wp2_with fail
              refine (unhide CCC).mono ?_
              rintro e w5 ⟨rfl, stays, black, ag, m1, m2, m3, m4, k5⟩
              have lo := (Loose.nil (s := { t' with word := wd }) (unhide RT) (unhide BK)).ahead ⟨m4, stays, black, ag, m1, m2, m3, rfl⟩
              obtain ⟨L5, h5, _, _⟩ := (unhide HI).hst k5 m4
              have H5 := hide h5
              have BK5 := hide lo.2.1
              clear m1 m2 m3 m4 k5 h5 lo
              go_wp2
              go_roundw
              case rel => exact ⟨k + 1, L5, St.collected { t' with word := wd } stays black ag, by omega, by go_num, SN, RT, BK5, hide (by show t'.colls + 1 ≤ _; have := unhide CO; omega), H5⟩
              case measure => simp [intOf]; omega
            · have c5' : ¬ (k : Int) % 5 = 4 := by omega
              clear c5
              go_wp2
              go_roundw
              case rel => exact ⟨k + 1, L', { t' with word := wd }, by omega, by go_num, SN, RT, BK, hide (by show t'.colls ≤ _; have := unhide CO; omega), HI⟩
              case measure => simp [intOf]; omega
          · have hat : St.at { t' with word := wd } (1048576 + (kk : Int) * 8) = some kk := unhide AT _ (by omega) (by omega)
            have CF := hFree_ok L' _ kk wr (unhide HI).r (unhide HI).wf.ok hat ((unhide HI).wf.rb (by show kk / 32 < t'.n; rw [unhide SN]; omega))
            rw [(unhide HI).e] at CF
            have CCF := hide CF
            have HAT := hide hat
            have hbeg : St.beg { t' with word := wd } kk = true := unhide BG
            have DT := hide (dropped_to (unhide HI).wf hbeg)
            clear CF hat hbeg
            go_wp2_with fail
            refine (unhide CCF).mono ?_
            rintro e w5 ⟨rfl, r5, t5⟩
            have h5 := (unhide HI).touch r5 (unhide DT).wf t5
            have CL := hLoad_err0 L' _ (1048576 + (kk : Int) * 8) 5 w5 (if_neg (by omega)) h5.r h5.wf.ok (.inr ((unhide DT).gone (unhide HI).wf _ (unhide HAT)))
            rw [h5.e] at CL
            have CCL := hide CL
            have H5 := hide h5
            clear r5 t5 h5 CL CCF
            go_wp2_with fail
            refine (unhide CCL).mono ?_
            rintro e w6 ⟨rfl, b6⟩
            have H6 := hide ((unhide H5).below b6)
            clear b6 CCL
            go_wp2
            go_roundw
            case rel => exact ⟨k + 1, L', St.dropped { t' with word := wd } kk, by omega, by go_num, hide ((unhide DT).n.trans (unhide SN)), hide ((unhide DT).roots.trans (unhide RT)), hide (fun p => by rw [(unhide DT).blk]; exact unhide BK p), hide (by rw [(unhide DT).colls]; show t'.colls ≤ _; have := unhide CO; omega), H6⟩
            case measure => simp [intOf]; omega
    · have HB := hide (unhide HD).b
      go_wp2
      go_ret
      exact ⟨rfl, unhide HB⟩

set_option maxHeartbeats 400000 in
theorem Zero_any (a b c : Int) (w : World) (hT : Tab w) (a1 : -9223372036854775808 ≤ a) (a2 : a ≤ 9223372036854775807) :
    Calls Tryd.prog 13 #[.int .i64 a, .int .i64 b, .int .i64 c] w fun e w' => e = .returned (.bool true) ∧ Below w.heap.size w w' := by
  have CP := hide (saysPick_any a 128 w a1 a2 (by omega) (by omega))
  have hp := pickN_lt a 128 (by omega)
  generalize pickN a 128 = p at *
  have C : Hid (∀ kind, Calls Tryd.prog 23 #[.int .i64 (1 + (p : Int)), .bool kind] w fun e w' => e = .returned (.bool true) ∧ Below w.heap.size w w') := fun kind => by
    have := zero_any (1 + p) kind w hT (by omega) (by omega)
    rw [show ((1 + p : Nat) : Int) = 1 + (p : Int) by omega] at this
    exact this
  clear hT
  go_enter Tryd.func13, Tryd.ntmps13
  go_wp2_with (first | (go_at_call 16; refine (unhide CP).mono ?_; rintro e w1 ⟨rfl, rfl⟩) | (go_at_call 23; refine (unhide C _).mono ?_; rintro e w1 ⟨rfl, hb⟩))
  go_ret
  exact ⟨rfl, by assumption⟩
end Go.Proofs.YtgegkcjllliifaaDoor
