/-
  The walks of inner and Inner.
-/
import Derived.Test.YtgegkcjllliifaaDoorHLoad
import Derived.Test.YtgegkcjllliifaaDoorHMore
namespace Go.Proofs.YtgegkcjllliifaaDoor
open Go.RowKit

/-- One object of sz words, and a root at x: what stays. -/
theorem one_stays {n r sz : Nat} {at' : Bool} {s : St} (hz : 1 ≤ sz) (l : LaidTo (St.init n r) 0 sz at' s) (x : Int) {t : St} (c : Cleaned { s with roots := [x] } t) :
    (1048576 ≤ x ∧ x < 1048576 + 8 * (sz : Int) → cntF t.beg (t.n * 32) = 1 ∧ sumW t (t.n * 32) = sz) ∧ (¬ (1048576 ≤ x ∧ x < 1048576 + 8 * (sz : Int)) → cntF t.beg (t.n * 32) = 0) := by
  have hn : t.n = n := c.n.trans l.n
  have hat := l.at (WF.init n r) hz x
  rw [init_at] at hat
  have hw : ∀ q, s.word q = 0 := fun q => by
    rw [l.word]
    show (if _ then (0 : Int) else 0) = 0
    split <;> rfl
  have hb : ∀ k, t.beg k = true ↔ s.at x = some k := fun k => (c.beg k).trans (reach_zero hw (at_zero s) x k)
  rw [hat] at hb
  have hlt := l.lt
  have hlt' : 0 + sz ≤ n * 32 := hlt
  refine ⟨fun h => ?_, fun h => ?_⟩
  · have hb' : ∀ j, t.beg j = true ↔ j = 0 := fun j => by
      rw [hb j, if_pos (by simpa using h)]
      simp [eq_comm]
    refine ⟨cntF_one (k := 0) (by rw [hn]; omega) hb', ?_⟩
    rw [sumW_one (k := 0) (by rw [hn]; omega) hb', (c.old 0 ((hb' 0).2 rfl)).1]
    exact (l.sizeNew hz).1
  · refine cntF_zero fun k _ => ?_
    cases hh : t.beg k with
    | false => rfl
    | true =>
      have := (hb k).1 hh
      rw [if_neg (by simpa using h)] at this
      cases this

set_option maxHeartbeats 3200000 in
theorem inner_any (n : Nat) (k : Int) (kind : Bool) (w : World) (hT : Tab w) (n1 : 1 ≤ n) (n2 : n ≤ 256) (k1 : -9223372036854775808 ≤ k) (k2 : k ≤ 9223372036854775807) :
    Calls Tryd.prog 19 #[.int .i64 n, .int .i64 k, .bool kind] w fun e w' => e = .returned (.bool true) ∧ Below w.heap.size w w' := by
  have T := hide hT
  have Q := hide (quiet_any 8 4 w (by omega) (by omega) (by omega) (by omega))
  obtain ⟨sz, z1, z2, z3, z4, z5⟩ := size_bd n n1
  have z6 : sz ≤ 256 := by
    by_cases c : 16 < sz
    · have := (z4 c).1; omega
    · omega
  have Z1 := hide z1
  clear hT z1 z3 z4 z5
  go_enter Tryd.func19, Tryd.ntmps19
  go_wp2_with fail
  refine (unhide Q).mono ?_
  rintro e w1 ⟨hb, rfl, hnew⟩
  obtain ⟨L, h1⟩ := Hd.new (unhide T) (Below.refl _ _) hnew
  have C1 := hide (hd_alloc h1 n sz 0 kind n1 (by show n ≤ 8 * 32; omega) (unhide Z1) (place_init 8 4 sz kind (by omega) (by omega)))
  clear hnew h1
  go_wp2_with fail
  refine (unhide C1).mono ?_
  rintro e w2 ⟨rfl, h2, l1, _⟩
  generalize hs : (St.init 8 4).laid 0 sz kind = s at *
  have hat := l1.at (WF.init 8 4) (by omega)
  have CS := hSize_some L s (1048576 + ((0 : Nat) : Int) * 8) w2 h2.r h2.wf.ok 0 (by rw [hat, if_pos (by omega)])
  rw [h2.e, show (0 / 32 : Nat) = 0 from rfl, (l1.sizeNew (by omega)).1] at CS
  have CC := hide CS
  have H2 := hide h2
  have L1 := hide l1
  have HAT := hide hat
  clear h2 l1 hat CS hs
  go_wp2_with fail
  refine (unhide CC).mono ?_
  rintro e w3 ⟨rfl, b3⟩
  have H3 := hide ((unhide H2).below b3)
  have CP := saysPick_any k (8 * sz + 1) w3 k1 k2 (by omega) (by omega)
  rw [show ((8 * sz + 1 : Nat) : Int) = 8 * (sz : Int) + 1 by omega] at CP
  have CCP := hide CP
  have hp := pickN_lt k (8 * sz + 1) (by omega)
  generalize pickN k (8 * sz + 1) = q at *
  clear b3 CP
  go_wp2_with fail
  refine (unhide CCP).mono ?_
  rintro e w4 ⟨rfl, rfl⟩
  have hr : s.roots = [] := (unhide L1).roots
  have C3 := hPush_ok L s (1048576 + (q : Int)) w4 (unhide H3).r (by rw [hr]; simp)
  rw [hr, (unhide H3).e] at C3
  have CC3 := hide C3
  clear hr C3
  go_wp2_with fail
  refine (unhide CC3).mono ?_
  rintro e w5 ⟨rfl, k5⟩
  obtain ⟨L5, h5, _, _⟩ := (unhide H3).hst k5 ((unhide L1).wf.roots _)
  have hs5 : ({ s with roots := [] ++ [1048576 + (q : Int)] } : St) = { s with roots := [1048576 + (q : Int)] } := rfl
  rw [hs5] at h5
  have H5 := hide h5
  have hat5 : St.at { s with roots := [1048576 + (q : Int)] } (1048576 + (q : Int)) = if q < 8 * sz then some 0 else none := by
    have := unhide HAT (1048576 + (q : Int))
    rw [init_at] at this
    have e : St.at { s with roots := [1048576 + (q : Int)] } (1048576 + (q : Int)) = s.at (1048576 + (q : Int)) := rfl
    rw [e, this]
    by_cases c : q < 8 * sz
    · rw [if_pos (by omega), if_pos c]
    · rw [if_neg (by omega), if_neg c]
  by_cases c : q < 8 * sz
  · rw [if_pos c] at hat5
    have C6 := hBase_some L5 _ _ 0 w5 h5.r h5.wf.ok hat5
    rw [h5.e] at C6
    have CC6 := hide C6
    clear k5 h5 hs5 hat5 C6
    go_wp2_with fail
    refine (unhide CC6).mono ?_
    rintro e w6 ⟨rfl, b6⟩
    have h6 := (unhide H5).below b6
    have C7 := clean_any L5 _ w6 h6.r h6.wf (by rw [show St.colls { s with roots := [1048576 + (q : Int)] } = s.colls from rfl, (unhide L1).colls]; exact Nat.zero_le _)
    rw [h6.e] at C7
    have CC7 := hide C7
    have H6 := hide h6
    clear h6 C7 b6
    go_wp2_with fail
    refine (unhide CC7).mono ?_
    rintro e w7 ⟨t, rfl, cl, k7⟩
    obtain ⟨L7, h7, _, _⟩ := (unhide H6).hst k7 cl.wf cl.trig
    obtain ⟨o1, o2⟩ := (one_stays (by omega) (unhide L1) _ cl).1 (by omega)
    unfold St.counts
    have HB := hide h7.b
    rw [o1, o2]
    have c' : ((q : Int) == 8 * (sz : Int)) = false := by simp; omega
    clear k7 cl h7 o1 o2
    go_wp2
    go_ret
    exact ⟨rfl, (unhide HB).alloc (unhide HB).size _⟩
  · rw [if_neg c] at hat5
    have C6 := hBase_none L5 _ _ w5 h5.r h5.wf.ok hat5
    rw [h5.e] at C6
    have CC6 := hide C6
    clear k5 h5 hs5 hat5 C6
    go_wp2_with fail
    refine (unhide CC6).mono ?_
    rintro e w6 ⟨rfl, b6⟩
    have h6 := (unhide H5).below b6
    have C7 := clean_any L5 _ w6 h6.r h6.wf (by rw [show St.colls { s with roots := [1048576 + (q : Int)] } = s.colls from rfl, (unhide L1).colls]; exact Nat.zero_le _)
    rw [h6.e] at C7
    have CC7 := hide C7
    have H6 := hide h6
    clear h6 C7 b6
    go_wp2_with fail
    refine (unhide CC7).mono ?_
    rintro e w7 ⟨t, rfl, cl, k7⟩
    obtain ⟨L7, h7, _, _⟩ := (unhide H6).hst k7 cl.wf cl.trig
    have o1 := (one_stays (by omega) (unhide L1) _ cl).2 (by omega)
    unfold St.counts
    have HB := hide h7.b
    rw [o1]
    have c' : ((q : Int) == 8 * (sz : Int)) = true := by simp; omega
    clear k7 cl h7 o1
    go_wp2
    go_ret
    exact ⟨rfl, (unhide HB).alloc (unhide HB).size _⟩

set_option maxHeartbeats 400000 in
theorem Inner_any (a b c : Int) (w : World) (hT : Tab w) (a1 : -9223372036854775808 ≤ a) (a2 : a ≤ 9223372036854775807) (b1 : -9223372036854775808 ≤ b) (b2 : b ≤ 9223372036854775807) :
    Calls Tryd.prog 9 #[.int .i64 a, .int .i64 b, .int .i64 c] w fun e w' => e = .returned (.bool true) ∧ Below w.heap.size w w' := by
  have CP := hide (saysPick_any a 256 w a1 a2 (by omega) (by omega))
  have hp := pickN_lt a 256 (by omega)
  generalize pickN a 256 = p at *
  have C : Hid (∀ kind, Calls Tryd.prog 19 #[.int .i64 (1 + (p : Int)), .int .i64 b, .bool kind] w fun e w' => e = .returned (.bool true) ∧ Below w.heap.size w w') := fun kind => by
    have := inner_any (1 + p) b kind w hT (by omega) (by omega) b1 b2
    rw [show ((1 + p : Nat) : Int) = 1 + (p : Int) by omega] at this
    exact this
  clear hT
  go_enter Tryd.func9, Tryd.ntmps9
  go_wp2_with (first | (go_at_call 16; refine (unhide CP).mono ?_; rintro e w1 ⟨rfl, rfl⟩) | (go_at_call 19; refine (unhide C _).mono ?_; rintro e w1 ⟨rfl, hb⟩))
  go_ret
  exact ⟨rfl, by assumption⟩
end Go.Proofs.YtgegkcjllliifaaDoor
