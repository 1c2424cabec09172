/-
  The walks of churn and Churn.
-/
import Derived.Test.YtgegkcjllliifaaDoorHLoad
import Derived.Test.YtgegkcjllliifaaDoorHMore
namespace Go.Proofs.YtgegkcjllliifaaDoor
open Go.RowKit

theorem Loose.zero {s : St} (h : s.roots = [0]) (hb : ∀ p, s.blk p = false) : Loose s := ⟨fun x hx => by rw [h] at hx; rw [List.mem_singleton.1 hx]; exact ⟨at_zero s, .inl (by omega)⟩, hb⟩

set_option maxRecDepth 10000 in
set_option maxHeartbeats 3200000 in
theorem churn_any (pages n trig : Nat) (w : World) (hT : Tab w) (p1 : 1 ≤ pages) (p2 : pages ≤ 48) (n1 : 1 ≤ n) (n2 : n ≤ pages * 32) (t2 : trig ≤ 4096) :
    Calls Tryd.prog 18 #[.int .i64 pages, .int .i64 n, .int .i64 trig] w fun e w' => e = .returned (.bool true) ∧ Below w.heap.size w w' := by
  have T := hide hT
  have Q := hide (new_any pages 1 trig w p1 p2 (by omega) (by omega) t2)
  obtain ⟨sz, z1, z2, z3, z4, z5⟩ := size_bd n n1
  have Z1 := hide z1
  clear hT z1 z3 z4 z5
  go_enter Tryd.func18, Tryd.ntmps18
  go_wp2_with fail
  refine (unhide Q).mono ?_
  rintro e wn ⟨hb, rfl, hnew⟩
  obtain ⟨L0, h0⟩ := Hg.new (unhide T) (Below.refl _ _) hnew
  have CP := hPush_ok L0 _ 0 wn h0.r (by show ([] : List Int).length < 24; simp)
  rw [h0.e] at CP
  have CCP := hide CP
  have H0 := hide h0
  clear hnew h0 CP
  go_wp2_with fail
  refine (unhide CCP).mono ?_
  rintro e w1 ⟨rfl, k1⟩
  have k1' : HSt wn L0 { St.init pages 1 trig with roots := [0] } w1 := k1
  obtain ⟨L1, h1, _, _⟩ := (unhide H0).hst k1' ((unhide H0).wf.roots _)
  have H1 := hide h1
  clear k1 k1' h1
  go_wp2
  go_loopw [9] (fun i wr => ∃ (k : Nat) (L : HL) (s : St), k ≤ 200 ∧ i = .int .i64 k ∧ Hid (s.n = pages) ∧ Hid (s.roots = [0]) ∧ Hid (∀ p, s.blk p = false) ∧ Hid (s.colls ≤ k) ∧ Hid (Hg w wr hb L s)) (fun i _ => 1000 - (intOf i).toNat)
  case atStart => exact ⟨0, L1, _, by omega, rfl, hide rfl, hide rfl, hide (fun _ => rfl), hide (Nat.le_refl _), H1⟩
  case round =>
    clear H1 H0
    obtain ⟨k, L, s, hk, rfl, SN, RT, BK, CO, HD⟩ := hrel
    by_cases hlt : k < 200
    · have C1 : Hid (∀ at0, Calls Tryd.prog 28 #[.pointer (some ⟨hb, 0, none⟩), .int .i64 n, .bool at0] wr fun e w' => ∃ (kk : Nat) (L' : HL) (t' : St), e = .returned (.tuple #[.int .i64 (1048576 + (kk : Int) * 8), .int .i64 0]) ∧ kk + sz ≤ pages * 32 ∧ Hid (Hg w w' hb L' t') ∧ Hid (t'.n = pages) ∧ Hid (t'.roots = [0]) ∧ Hid (∀ p, t'.blk p = false) ∧ Hid (t'.colls ≤ k + 1) ∧ Hid (t'.size (kk / 32) = sz) ∧ Hid (∀ x : Int, 1048576 + 8 * (kk : Int) ≤ x → x < 1048576 + 8 * (kk : Int) + 8 * (sz : Int) → t'.at x = some kk)) := by
        intro at0
        refine (hg_loose (unhide HD) (Loose.zero (unhide RT) (unhide BK)) (by have := unhide CO; omega) n sz at0 n1 (by rw [unhide SN]; omega) (unhide Z1)).mono ?_
        rintro e w' ⟨kk, L', t, t', he, g, l, wt, tn, tb, tr, tt, tc, _⟩
        have := unhide CO
        have hll := l.lt
        rw [tn, unhide SN] at hll
        refine ⟨kk, L', t', he, hll, g, l.n.trans (tn.trans (unhide SN)), l.roots.trans (tr.trans (unhide RT)), fun p => by rw [l.blk]; exact tb p, hide (by rw [l.colls]; omega), (l.sizeNew (by omega)).1, fun x x1 x2 => ?_⟩
        rw [l.at wt (by omega), if_pos ⟨x1, x2⟩]
      clear HD SN RT BK CO
      go_wp2_with fail
      refine (unhide C1 _).mono ?_
      rintro e w1 ⟨kk, L', t', rfl, hkk, H1, SN, RT, BK, CO, SZ, AT⟩
      clear C1
      have hge : decide (1048576 + (kk : Int) * 8 < 1048576) = false := by simp; omega
      have hat : t'.at (1048576 + (kk : Int) * 8) = some kk := unhide AT _ (by omega) (by omega)
      have HAT := hide hat
      have CT := hStore_ok L' _ (1048576 + (kk : Int) * 8) (k : Int) kk kk w1 (unhide H1).r (unhide H1).wf.ok (by omega) hat (by omega) (by omega) (by rw [unhide SN]; omega)
      rw [(unhide H1).e] at CT
      have CCT := hide CT
      clear CT hat
      go_wp2_with fail
      refine (unhide CCT).mono ?_
      rintro e w2 ⟨rfl, r2, t2'⟩
      have h2 := (unhide H1).touch r2 ((unhide H1).wf.setWd _ _) t2'
      have CL := hLoad_ok L' _ (1048576 + (kk : Int) * 8) kk kk w2 h2.r h2.wf.ok (by omega) (unhide HAT) (by omega) (by omega) (by show kk < t'.n * 32; rw [unhide SN]; omega)
      rw [h2.e, show (t'.setWd kk (k : Int)).word kk = (k : Int) from upd_same _ _ _] at CL
      have CCL := hide CL
      have H2 := hide h2
      clear r2 t2' h2 CL CCT
      go_wp2_with fail
      refine (unhide CCL).mono ?_
      rintro e w3 ⟨rfl, b3⟩
      have h3 := (unhide H2).below b3
      have CS := hSize_some L' _ (1048576 + (kk : Int) * 8) w3 h3.r h3.wf.ok kk (unhide HAT)
      rw [h3.e, show (t'.setWd kk (k : Int)).size (kk / 32) = sz from unhide SZ] at CS
      obtain ⟨zi, hzi⟩ : ∃ zi : Int, zi = (sz : Int) := ⟨_, rfl⟩
      rw [← hzi] at CS
      have hsn : decide (zi < (n : Int)) = false := by simp; omega
      clear hzi
      have CCS := hide CS
      have H3 := hide h3
      clear b3 h3 CS CCL
      go_wp2_with fail
      refine (unhide CCS).mono ?_
      rintro e w4 ⟨rfl, b4⟩
      have H4 := hide ((unhide H3).below b4)
      clear b4 CCS
      have hkk' : ((k : Int) != (k : Int)) = false := by simp
      go_wp2
      go_roundw
      case rel => exact ⟨k + 1, L', t'.setWd kk (k : Int), by omega, by go_num, SN, RT, BK, CO, H4⟩
      case measure => simp [intOf]; omega
    · have CC := clean_any L s wr (unhide HD).r (unhide HD).wf (by have := unhide CO; omega)
      rw [(unhide HD).e] at CC
      have CCC := hide CC
      clear CC
      go_wp2_with fail
      refine (unhide CCC).mono ?_
      rintro e w5 ⟨t, rfl, cl, k5⟩
      obtain ⟨L5, h5, _, _⟩ := (unhide HD).hst k5 cl.wf
      obtain ⟨o1, o2, o3⟩ := none_left (unhide RT) cl
      unfold St.counts
      rw [o1, o2, o3]
      have HB := hide h5.b
      clear k5 cl h5 o1 o2 o3
      go_wp2
      go_ret
      exact ⟨rfl, (unhide HB).alloc (unhide HB).size _⟩

set_option maxHeartbeats 800000 in
theorem Churn_any (a b c : Int) (w : World) (hT : Tab w) (a1 : -9223372036854775808 ≤ a) (a2 : a ≤ 9223372036854775807) (b1 : -9223372036854775808 ≤ b) (b2 : b ≤ 9223372036854775807) (c1 : -9223372036854775808 ≤ c) (c2 : c ≤ 9223372036854775807) :
    Calls Tryd.prog 8 #[.int .i64 a, .int .i64 b, .int .i64 c] w fun e w' => e = .returned (.bool true) ∧ Below w.heap.size w w' := by
  have CP := hide (saysPick_any a 48 w a1 a2 (by omega) (by omega))
  have CP3 := hide (saysPick_any c 4097 w c1 c2 (by omega) (by omega))
  have hp := pickN_lt a 48 (by omega)
  have hr := pickN_lt c 4097 (by omega)
  generalize pickN a 48 = p at *
  generalize pickN c 4097 = r at *
  have CP2 := saysPick_any b ((1 + p) * 32) w b1 b2 (by omega) (by omega)
  rw [show (((1 + p) * 32 : Nat) : Int) = (1 + (p : Int)) * 32 by omega] at CP2
  have CCP2 := hide CP2
  have hq := pickN_lt b ((1 + p) * 32) (by omega)
  generalize pickN b ((1 + p) * 32) = q at *
  have C := churn_any (1 + p) (1 + q) r w hT (by omega) (by omega) (by omega) (by omega) (by omega)
  rw [show ((1 + p : Nat) : Int) = 1 + (p : Int) by omega, show ((1 + q : Nat) : Int) = 1 + (q : Int) by omega] at C
  have CC := hide C
  clear hT CP2 C
  go_enter Tryd.func8, Tryd.ntmps8
  go_wp2_with fail
  refine (unhide CP).mono ?_
  rintro e w1 ⟨rfl, rfl⟩
  go_wp2_with fail
  refine (unhide CCP2).mono ?_
  rintro e w1 ⟨rfl, rfl⟩
  go_wp2_with fail
  refine (unhide CP3).mono ?_
  rintro e w1 ⟨rfl, rfl⟩
  go_wp2_with (go_at_call 18; refine (unhide CC).mono ?_; rintro e w1 ⟨rfl, hb⟩)
  go_ret
  exact ⟨rfl, by assumption⟩
end Go.Proofs.YtgegkcjllliifaaDoor
