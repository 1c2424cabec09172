/-
  The walks of the law's pick and sameInts.
-/
import Derived.Test.YtgegkcjllliifabDoorRefAhead
namespace Go.Proofs.YtgegkcjllliifabDoor
open Go.RowKit

set_option maxHeartbeats 400000 in
theorem lawPick_any (c : Int) (n : Nat) (w : World) (h1 : -9223372036854775808 ≤ c) (h2 : c ≤ 9223372036854775807) (hn : 1 ≤ n) (hn2 : n ≤ 4611686018427387904) :
    Calls Tryd.prog 50 #[.int .i64 c, .int .i64 n] w fun e w' => e = .returned (.int .i64 (pickN c n)) ∧ w' = w := by
  have hz : ((n : Int) == 0) = false := by simp; omega
  have HP := hide (pickN_eq c n hn)
  by_cases h : c < 0
  · have e := tmod_negn c n h
    have HE := hide e
    clear e
    rw [if_pos h] at HP
    go_enter Tryd.func50, Tryd.ntmps50
    go_wp2
    go_ret
    exact ⟨ret_int (by rw [unhide HP]; first | rfl | exact unhide HE), rfl⟩
  · have h' : 0 ≤ c := by omega
    rw [if_neg h] at HP
    go_enter Tryd.func50, Tryd.ntmps50
    go_wp2
    go_ret
    exact ⟨ret_int (by rw [unhide HP]), rfl⟩

/-- A slice of ours that holds these numbers. -/
def IntsOf (w : World) (v : Value) (l : List Int) : Prop := w.ownsRow 0 3 1 v l.length (ints l)
theorem IntsOf.at {w : World} {v : Value} {l : List Int} (h : IntsOf w v l) (i : Nat) (hi : i < l.length) : ∃ g cap, v = .slice (some ⟨g, 0, none⟩) l.length cap ∧ g < w.heap.size ∧ l.length ≤ cap ∧ cap ≤ maxLen ∧ w.cell? ⟨g, i, none⟩ = some (.int .i64 (l[i])) := by
  obtain ⟨g, cap, hv, h1, h2, hg⟩ := ownsRow_some h (by omega)
  have ho := h
  unfold IntsOf at ho
  rw [hv] at ho
  exact ⟨g, cap, hv, hg, h1, h2, by rw [ho.cellAt _ (by omega)]; simp [ints, hi]⟩
theorem IntsOf.agree {w w' : World} {v : Value} {l : List Int} (h : IntsOf w v l) (ha : ∀ k, v.ownBlock = some k → w'.heap[k]? = w.heap[k]?) : IntsOf w' v l := ownsRow_agree h ha

set_option maxHeartbeats 800000 in
theorem sameInts_true (v1 v2 : Value) (l : List Int) (w : World) (h1 : IntsOf w v1 l) (h2 : IntsOf w v2 l) (hl : l.length ≤ 1000000) :
    Calls Tryd.prog 55 #[v1, v2] w fun e w' => e = .returned (.bool true) ∧ ∃ q, w' = w.drewN q := by
  obtain ⟨a1, c1, e1, _, _⟩ := ownsRow_shape h1
  obtain ⟨a2, c2, e2, _, _⟩ := ownsRow_shape h2
  subst e1 e2
  have H1 := hide h1
  have H2 := hide h2
  clear h1 h2
  have hne : ((l.length : Int) == (l.length : Int)) = true := by simp
  go_enter Tryd.func55, Tryd.ntmps55
  go_wp2
  clear hne
  go_loopw [5] (fun i wr => ∃ k q : Nat, k ≤ l.length ∧ i = .int .i64 k ∧ wr = w.drewN q) (fun i _ => l.length - (intOf i).toNat)
  case atStart => exact ⟨0, 0, by omega, rfl, rfl⟩
  case round =>
    obtain ⟨k, q, hk, rfl, rfl⟩ := hrel
    by_cases hlt : k < l.length
    · obtain ⟨g, cp, hv, hg, hc1, hc2, o1⟩ := (unhide H1).at k hlt
      obtain ⟨g', cp', hv', hg', hc1', hc2', o2⟩ := (unhide H2).at k hlt
      simp only [Value.slice.injEq, true_and] at hv hv'
      obtain ⟨rfl, rfl⟩ := hv
      obtain ⟨rfl, rfl⟩ := hv'
      unfold maxLen at hc2 hc2'
      generalize l[k] = x at o1 o2
      go_wp2_with fail
      go_quiet (fail)
      go_wp2
      go_roundw
      case rel => first | exact ⟨k + 1, _, by omega, by go_num, by rfl⟩ | ((repeat apply Exists.intro); exact ⟨⟨k + 1, _, by omega, by go_num, by rfl⟩, rfl⟩)
      case measure => simp [intOf]; omega
    · go_wp2
      go_ret
      exact ⟨rfl, q, rfl⟩
end Go.Proofs.YtgegkcjllliifabDoor
