/-
  The walks of numeral and Number.
-/
import Derived.Test.YtgegkcjllliifabDoorHSays
namespace Go.Proofs.YtgegkcjllliifabDoor
open Go.RowKit

def nm1 : St := (St.init 4 4).laid 0 4 false
def nm2 : St := nm1.laid 4 4 false
theorem nm_place0 : (St.init 4 4).place 4 false = some 0 := by decide +kernel
theorem nm_place1 : nm1.place 4 false = some 4 := by decide +kernel

theorem nm_at (l1 : LaidTo (St.init 4 4) 0 4 false nm1) (l2 : LaidTo nm1 4 4 false nm2) (x : Int) : nm2.at x = if 1048608 ≤ x ∧ x < 1048640 then some 4 else if 1048576 ≤ x ∧ x < 1048608 then some 0 else none := by
  rw [l2.at l1.wf (by omega), l1.at (WF.init 4 4) (by omega), init_at]
  simp
theorem nm_word (l1 : LaidTo (St.init 4 4) 0 4 false nm1) (l2 : LaidTo nm1 4 4 false nm2) (q : Nat) : nm2.word q = 0 := by
  rw [l2.word, l1.word]
  show (if _ then (0 : Int) else if _ then (0 : Int) else 0) = 0
  split
  · rfl
  · split <;> rfl

theorem nm_reach (l1 : LaidTo (St.init 4 4) 0 4 false nm1) (l2 : LaidTo nm1 4 4 false nm2) (x : Int) (k : Nat) : St.Reach { nm2 with roots := [x] } k ↔ nm2.at x = some k := by
  constructor
  · intro h
    cases h with
    | root h1 h2 =>
      have e := List.mem_singleton.1 h1
      rw [e] at h2
      exact h2
    | word h1 h2 h3 h4 =>
      have e : ∀ q, (St.word { nm2 with roots := [x] } q) = 0 := nm_word l1 l2
      rw [e] at h4
      have h5 : nm2.at 0 = some k := h4
      rw [nm_at l1 l2] at h5
      simp at h5
  · intro h
    exact .root (List.mem_singleton.2 rfl) h

/-- How many stay. -/
theorem nm_count (l1 : LaidTo (St.init 4 4) 0 4 false nm1) (l2 : LaidTo nm1 4 4 false nm2) (x : Int) {t : St} (c : Cleaned { nm2 with roots := [x] } t) : cntF t.beg (t.n * 32) = if 1048576 ≤ x ∧ x < 1048640 then 1 else 0 := by
  have hn : t.n = 4 := c.n.trans (l2.n.trans l1.n)
  have hb : ∀ k, t.beg k = true ↔ nm2.at x = some k := fun k => (c.beg k).trans (nm_reach l1 l2 x k)
  rw [hn]
  rw [nm_at l1 l2] at hb
  by_cases c1 : 1048608 ≤ x ∧ x < 1048640
  · rw [if_pos (by omega)]
    refine cntF_one (k := 4) (by omega) fun j => ?_
    rw [hb j, if_pos c1]
    simp [eq_comm]
  · by_cases c2 : 1048576 ≤ x ∧ x < 1048608
    · rw [if_pos (by omega)]
      refine cntF_one (k := 0) (by omega) fun j => ?_
      rw [hb j, if_neg c1, if_pos c2]
      simp [eq_comm]
    · rw [if_neg (by omega)]
      refine cntF_zero fun k _ => ?_
      cases h : t.beg k with
      | false => rfl
      | true =>
        have := (hb k).1 h
        rw [if_neg c1, if_neg c2] at this
        cases this

set_option maxHeartbeats 1600000 in
theorem numeral_any (x : Int) (w : World) (hT : Tab w) :
    Calls Tryd.prog 13 #[.int .i64 x] w fun e w' => e = .returned (.bool true) ∧ Below w.heap.size w w' := by
  have T := hide hT
  have Q := hide (quiet_any 4 4 w (by omega) (by omega) (by omega) (by omega))
  clear hT
  go_enter Tryd.func13, Tryd.ntmps13
  go_wp2_with fail
  refine (unhide Q).mono ?_
  rintro e w1 ⟨hb, rfl, hnew⟩
  obtain ⟨L, h1⟩ := Hd.new (unhide T) (Below.refl _ _) hnew
  have C1 := hide (hd_alloc h1 4 4 0 false (by omega) (by show 4 ≤ 4 * 32; omega) (by decide) nm_place0)
  clear hnew h1
  go_wp2_with fail
  refine (unhide C1).mono ?_
  rintro e w2 ⟨rfl, h2, l1, _⟩
  have L1 : Hid (LaidTo (St.init 4 4) 0 4 false nm1) := l1
  have h2' : Hd w w2 hb L nm1 := h2
  have C2 := hide (hd_alloc h2' 4 4 4 false (by omega) (by rw [(unhide L1).n]; show 4 ≤ 4 * 32; omega) (by decide) nm_place1)
  clear h2 h2' l1
  go_wp2_with fail
  refine (unhide C2).mono ?_
  rintro e w3 ⟨rfl, h3, l2, _⟩
  have L2 : Hid (LaidTo nm1 4 4 false nm2) := l2
  have H3 : Hid (Hd w w3 hb L nm2) := h3
  have hr : nm2.roots = [] := l2.roots.trans (unhide L1).roots
  have C3 := hPush_ok L nm2 x w3 h3.r (by rw [hr]; simp)
  rw [hr, h3.e] at C3
  have CC3 := hide C3
  clear h3 l2 hr C3
  go_wp2_with fail
  refine (unhide CC3).mono ?_
  rintro e w4 ⟨rfl, k4⟩
  have wf4 : WF { nm2 with roots := [x] } := ⟨(unhide L2).wf.z0, (unhide L2).wf.z1, (unhide L2).wf.sm, (unhide L2).wf.gm, (unhide L2).wf.gb, (unhide L2).wf.gr, (unhide L2).wf.bg, (unhide L2).wf.un, (unhide L2).wf.uz⟩
  obtain ⟨L4, h4, _, _⟩ := (unhide H3).hst k4 wf4
  have H4 := hide h4
  have C4 := clean_any L4 _ w4 h4.r h4.wf (by rw [show St.colls { nm2 with roots := [] ++ [x] } = nm2.colls from rfl, (unhide L2).colls, (unhide L1).colls]; exact Nat.zero_le _)
  rw [h4.e] at C4
  have CC4 := hide C4
  clear k4 wf4 h4 C4
  go_wp2_with fail
  refine (unhide CC4).mono ?_
  rintro e w5 ⟨t, rfl, cl, k5⟩
  obtain ⟨L5, h5, _, _⟩ := (unhide H4).hst k5 cl.wf cl.trig
  have hcnt := nm_count (unhide L1) (unhide L2) x cl
  unfold St.counts
  have HB := hide h5.b
  rw [hcnt]
  clear k5 cl h5 hcnt
  by_cases c1 : 1048608 ≤ x ∧ x < 1048640
  · rw [if_pos (by omega)]
    obtain ⟨d1, d2⟩ := c1
    go_wp2
    go_ret
    exact ⟨rfl, (unhide HB).alloc (unhide HB).size _⟩
  · by_cases c2 : 1048576 ≤ x ∧ x < 1048608
    · rw [if_pos (by omega)]
      obtain ⟨d1, d2⟩ := c2
      clear c1
      go_wp2
      go_ret
      exact ⟨rfl, (unhide HB).alloc (unhide HB).size _⟩
    · rw [if_neg (by omega)]
      by_cases c3 : x < 1048576
      · clear c1 c2
        go_wp2
        go_ret
        exact ⟨rfl, (unhide HB).alloc (unhide HB).size _⟩
      · have c4 : 1048640 ≤ x := by omega
        clear c1 c2 c3
        go_wp2
        go_ret
        exact ⟨rfl, (unhide HB).alloc (unhide HB).size _⟩

set_option maxHeartbeats 400000 in
theorem Number_any (a b c : Int) (w : World) (hT : Tab w) (a1 : -9223372036854775808 ≤ a) (a2 : a ≤ 9223372036854775807) :
    Calls Tryd.prog 5 #[.int .i64 a, .int .i64 b, .int .i64 c] w fun e w' => e = .returned (.bool true) ∧ Below w.heap.size w w' := by
  have CP := hide (saysPick_any a 700 w a1 a2 (by omega) (by omega))
  have hp := pickN_lt a 700 (by omega)
  have C : Hid (∀ x, Calls Tryd.prog 13 #[.int .i64 x] w fun e w' => e = .returned (.bool true) ∧ Below w.heap.size w w') := fun x => numeral_any x w hT
  clear hT
  generalize pickN a 700 = p at *
  go_enter Tryd.func5, Tryd.ntmps5
  go_wp2_with (first | (go_at_call 10; refine (unhide CP).mono ?_; rintro e w1 ⟨rfl, rfl⟩) | (go_at_call 13; refine (unhide C _).mono ?_; rintro e w1 ⟨rfl, hb⟩))
  all_goals go_ret
  all_goals exact ⟨rfl, by assumption⟩
end Go.Proofs.YtgegkcjllliifabDoor
