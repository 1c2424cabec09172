/-
  The walks of the reference heap's Fits, Room, Busy, Word.
-/
import Derived.Test.YtgegkcjllliifabDoorRefOn
import Derived.Deep.QuietTactic
import Derived.BigQuiet
namespace Go.Proofs.YtgegkcjllliifabDoor
open Go.RowKit

theorem chain_below {P : Program} {f : Nat} {args : Array Value} {w w1 : World} {Q : Ending → Prop} (hb : Below w.heap.size w w1) (h : Calls P f args w1 fun e w' => Q e ∧ Below w1.heap.size w1 w') :
    Calls P f args w1 fun e w' => Q e ∧ Below w.heap.size w w' := h.mono fun _ _ ⟨hq, hb'⟩ => ⟨hq, hb.trans (hb'.mono hb.size)⟩

/-- Are the pages from p on, k of them, free for one great object? -/
def Mo.great (m : Mo) (p : Nat) (at' : Bool) : Nat → Bool
  | 0 => true
  | k + 1 => m.great p at' k && (decide (p + k < m.pages) && m.bare (p + k) at')
/-- May an object of so many words lie at a? -/
def Mo.fits (m : Mo) (a : Int) (words : Nat) (at' : Bool) : Bool :=
  if m.page a < 0 then false
  else if 16 < words then m.great (m.page a).toNat at' (words / 32) && ((a - 1048576 - (m.page a) * 256) == 0)
  else (m.bare (m.page a).toNat at' || (decide (0 < (m.on (m.page a).toNat).1) && ((m.on (m.page a).toNat).2.1 == words) && ((m.on (m.page a).toNat).2.2 == at'))) &&
    ((a - 1048576 - (m.page a) * 256) % (8 * (words : Int)) == 0) && decide ((a - 1048576 - (m.page a) * 256) / 8 + (words : Int) ≤ 32) && decide (m.find a < 0)

theorem page_cases (m : Mo) (a : Int) : (m.page a = -1) ∨ ∃ p : Nat, m.page a = p ∧ p < m.pages ∧ 1048576 + (p : Int) * 256 ≤ a ∧ a < 1048576 + (p : Int) * 256 + 256 := by
  unfold Mo.page
  split
  · right; exact ⟨((a - 1048576) / 256).toNat, by omega, by omega, by omega, by omega⟩
  · left; rfl

theorem great_mono (m : Mo) (p : Nat) (at' : Bool) (k j : Nat) (h : m.great p at' (k + j) = true) : m.great p at' k = true := by
  induction j with
  | zero => exact h
  | succ j ih =>
    rw [← Nat.add_assoc] at h
    simp only [Mo.great, Bool.and_eq_true] at h
    exact ih h.1
theorem great_false (m : Mo) (p : Nat) (at' : Bool) (k n : Nat) (hk : k < n) (h : (decide (p + k < m.pages) && m.bare (p + k) at') = false) : m.great p at' n = false := by
  by_cases c : m.great p at' n = true
  · have e : n = (k + 1) + (n - (k + 1)) := by omega
    rw [e] at c
    have := great_mono m p at' (k + 1) _ c
    simp only [Mo.great, Bool.and_eq_true] at this
    simp only [Bool.and_eq_false_iff] at h
    simp only [this.2.1, this.2.2] at h
    simp at h
  · simpa using c

set_option maxHeartbeats 800000 in
theorem fits_great (R : RL) (m : Mo) (a : Int) (p words : Nat) (at' : Bool) (w : World) (h : RefIs w R m) (bd : m.bd) (hw : 16 < words) (hw2 : words ≤ 1536) (hp : Hid (m.page a = p)) (hp1 : p < m.pages) (hp2 : 1048576 + (p : Int) * 256 ≤ a) (hp3 : a < 1048576 + (p : Int) * 256 + 256) :
    Calls Tryd.prog 87 #[.pointer (some ⟨R.r, 0, none⟩), .int .i64 a, .int .i64 words, .bool at'] w fun e w' => e = .returned (.bool (m.great p at' (words / 32) && ((a - 1048576 - (p : Int) * 256) == 0))) ∧ Below w.heap.size w w' := by
  have b2 := bd.p2
  have C1 : Hid (Calls Tryd.prog 95 #[.pointer (some ⟨R.r, 0, none⟩), .int .i64 a] w fun e w' => e = .returned (.int .i64 p) ∧ w = w') := by
    have := page_any R m a w h bd
    rw [hp.out] at this
    exact this.mono fun _ _ ⟨x, y⟩ => ⟨x, y.symm⟩
  have C2 : Hid (∀ w1 (q : Nat), q < m.pages → Below w.heap.size w w1 → Calls Tryd.prog 96 #[.pointer (some ⟨R.r, 0, none⟩), .int .i64 q, .bool at'] w1 fun e w' => e = .returned (.bool (m.bare q at')) ∧ Below w.heap.size w w') :=
    fun w1 q hq hb => chain_below hb (bare_any R m q at' w1 (h.below hb) bd hq)
  have HH := hide h
  have t1 : decide ((p : Int) < 0) = false := decide_eq_false (by omega)
  have t2 : decide ((16 : Int) < (words : Int)) = true := decide_eq_true (by omega)
  clear h bd hp
  go_enter Tryd.func87, Tryd.ntmps87
  go_wp2_with (go_at_call 95; refine (unhide C1).mono ?_; rintro e w' ⟨rfl, rfl⟩)
  go_loopw [11] (fun i wr => ∃ k : Nat, k ≤ words / 32 ∧ i = .int .i64 k ∧ Below w.heap.size w wr ∧ Hid (m.great p at' k = true)) (fun i _ => 60 - (intOf i).toNat)
  case atStart => exact ⟨0, by omega, rfl, Below.refl _ _, hide rfl⟩
  case round =>
    obtain ⟨k, hk, rfl, hB, HE⟩ := hrel
    have fp := ((unhide HH).below hB).cells.1
    by_cases hlt : k < words / 32
    · by_cases c1 : p + k < m.pages
      · obtain ⟨b, hb⟩ : ∃ b, m.bare (p + k) at' = b := ⟨_, rfl⟩
        have C3 := hide (unhide C2 _ (p + k) c1 hB)
        rw [hb] at C3
        have e1 : ((p + k : Nat) : Int) = (p : Int) + k := by omega
        rw [e1] at C3
        clear e1
        cases b
        · have HF : Hid (m.great p at' (words / 32) = false) := great_false m p at' k _ hlt (by rw [hb]; simp)
          clear hb
          go_wp2_with (go_at_call 96; refine (unhide C3).mono ?_; rintro e w' ⟨rfl, hb2⟩)
          go_ret
          exact ⟨ret_bool (by rw [HF.out]; rfl), by assumption⟩
        · have HT : Hid (m.great p at' (k + 1) = true) := by
            show Mo.great _ _ _ _ = _
            simp [Mo.great, HE.out, hb, c1]
          clear hb
          go_wp2_with (go_at_call 96; refine (unhide C3).mono ?_; rintro e w' ⟨rfl, hb2⟩)
          go_roundw
          case rel => first | exact ⟨k + 1, by omega, by go_num, by assumption, HT⟩ | ((repeat apply Exists.intro); exact ⟨⟨k + 1, by omega, by go_num, by assumption, HT⟩, rfl⟩)
          case measure => simp [intOf]; omega
      · have HF : Hid (m.great p at' (words / 32) = false) := great_false m p at' k _ hlt (by simp [c1])
        go_wp2
        go_ret
        exact ⟨ret_bool (by rw [HF.out]; rfl), hB⟩
    · obtain rfl : k = words / 32 := by omega
      go_wp2
      go_ret
      exact ⟨ret_bool (by rw [HE.out]; simp), hB⟩

set_option maxHeartbeats 1600000 in
theorem fits_small (R : RL) (m : Mo) (a f : Int) (p words n z : Nat) (kd at' bb : Bool) (w : World) (h : RefIs w R m) (bd : m.bd) (hw : 1 ≤ words) (hw2 : words ≤ 16) (hp : Hid (m.page a = p)) (hp1 : p < m.pages) (hp2 : 1048576 + (p : Int) * 256 ≤ a) (hp3 : a < 1048576 + (p : Int) * 256 + 256)
    (hon : Hid (m.on p = (n, z, kd))) (hbb : Hid (m.bare p at' = bb)) (hf : Hid (m.find a = f)) :
    Calls Tryd.prog 87 #[.pointer (some ⟨R.r, 0, none⟩), .int .i64 a, .int .i64 words, .bool at'] w fun e w' => e = .returned (.bool ((bb || (decide (0 < n) && (z == words) && (kd == at'))) && ((a - 1048576 - (p : Int) * 256) % (8 * (words : Int)) == 0) && decide ((a - 1048576 - (p : Int) * 256) / 8 + (words : Int) ≤ 32) && decide (f < 0))) ∧ Below w.heap.size w w' := by
  have b2 := bd.p2
  have C1 : Hid (Calls Tryd.prog 95 #[.pointer (some ⟨R.r, 0, none⟩), .int .i64 a] w fun e w' => e = .returned (.int .i64 p) ∧ w = w') := by
    have := page_any R m a w h bd
    rw [hp.out] at this
    exact this.mono fun _ _ ⟨x, y⟩ => ⟨x, y.symm⟩
  have C2 : Hid (∀ w1, Below w.heap.size w w1 → Calls Tryd.prog 96 #[.pointer (some ⟨R.r, 0, none⟩), .int .i64 p, .bool at'] w1 fun e w' => e = .returned (.bool bb) ∧ Below w.heap.size w w') := by
    intro w1 hb
    have := chain_below hb (bare_any R m p at' w1 (h.below hb) bd hp1)
    rw [hbb.out] at this
    exact this
  have C3 : Hid (∀ w1, Below w.heap.size w w1 → Calls Tryd.prog 97 #[.pointer (some ⟨R.r, 0, none⟩), .int .i64 p] w1 fun e w' => e = .returned (.tuple #[.int .i64 n, .int .i64 z, .bool kd]) ∧ Below w.heap.size w w') := by
    intro w1 hb
    have := chain_below hb (on_any R m p w1 (h.below hb) bd (by omega))
    rw [hon.out] at this
    exact this
  have C4 : Hid (∀ w1, Below w.heap.size w w1 → Calls Tryd.prog 69 #[.pointer (some ⟨R.r, 0, none⟩), .int .i64 a] w1 fun e w' => e = .returned (.int .i64 f) ∧ Below w.heap.size w w') := by
    intro w1 hb
    have := chain_below hb (find_any R m a w1 (h.below hb) bd)
    rw [hf.out] at this
    exact this
  clear h bd hp hon hbb hf
  have hB0 := Below.refl w.heap.size w
  by_cases ok : (bb || (decide (0 < n) && (z == words) && (kd == at'))) = true
  · have OK := hide ok
    have ok2 : bb = true ∨ (bb = false ∧ 0 < n ∧ z = words ∧ kd = at') := by
      cases bb <;> simp_all
    clear ok
    have w8 : 0 < 8 * (words : Int) := by omega
    have o1 : 0 ≤ (a - 1048576 - (p : Int) * 256) % (8 * (words : Int)) := Int.emod_nonneg _ (by omega)
    by_cases d1 : ((a - 1048576 - (p : Int) * 256) % (8 * (words : Int)) == 0) = true
    · by_cases d2 : (a - 1048576 - (p : Int) * 256) / 8 + (words : Int) ≤ 32
      · by_cases d3 : f < 0
        all_goals
          have HR := hide d1
          rcases ok2 with rfl | ⟨rfl, e1, rfl, rfl⟩
          all_goals
            go_enter Tryd.func87, Tryd.ntmps87
            go_wp2_with (first | (go_at_call 95; refine (unhide C1).mono ?_; rintro e w' ⟨rfl, rfl⟩) | (go_at_call 96; refine (unhide C2 _ (by assumption)).mono ?_; rintro e w' ⟨rfl, hb2⟩) | (go_at_call 97; refine (unhide C3 _ (by assumption)).mono ?_; rintro e w' ⟨rfl, hb3⟩) | (go_at_call 69; refine (unhide C4 _ (by assumption)).mono ?_; rintro e w' ⟨rfl, hb4⟩))
            go_ret
            exact ⟨ret_bool (by rw [OK.out, HR.out]; simp [d2, d3]), by assumption⟩
      · rcases ok2 with rfl | ⟨rfl, e1, rfl, rfl⟩
        all_goals
          have HR := hide d1
          go_enter Tryd.func87, Tryd.ntmps87
          go_wp2_with (first | (go_at_call 95; refine (unhide C1).mono ?_; rintro e w' ⟨rfl, rfl⟩) | (go_at_call 96; refine (unhide C2 _ (by assumption)).mono ?_; rintro e w' ⟨rfl, hb2⟩) | (go_at_call 97; refine (unhide C3 _ (by assumption)).mono ?_; rintro e w' ⟨rfl, hb3⟩) | (go_at_call 69; refine (unhide C4 _ (by assumption)).mono ?_; rintro e w' ⟨rfl, hb4⟩))
          go_ret
          exact ⟨ret_bool (by first | (rw [OK.out, HR.out]; simp [d2]; done) | (rw [decide_eq_false (by omega)]; rfl)), by assumption⟩
    · have d1' : ((a - 1048576 - (p : Int) * 256) % (8 * (words : Int)) == 0) = false := by simpa using d1
      have HR := hide d1'
      clear d1
      rcases ok2 with rfl | ⟨rfl, e1, rfl, rfl⟩
      all_goals
        go_enter Tryd.func87, Tryd.ntmps87
        go_wp2_with (first | (go_at_call 95; refine (unhide C1).mono ?_; rintro e w' ⟨rfl, rfl⟩) | (go_at_call 96; refine (unhide C2 _ (by assumption)).mono ?_; rintro e w' ⟨rfl, hb2⟩) | (go_at_call 97; refine (unhide C3 _ (by assumption)).mono ?_; rintro e w' ⟨rfl, hb3⟩) | (go_at_call 69; refine (unhide C4 _ (by assumption)).mono ?_; rintro e w' ⟨rfl, hb4⟩))
        go_ret
        exact ⟨ret_bool (by first | (rw [OK.out, HR.out]; simp; done) | rfl), by assumption⟩
  · have ok' : (bb || (decide (0 < n) && (z == words) && (kd == at'))) = false := by simpa using ok
    have OK := hide ok'
    clear ok
    obtain rfl : bb = false := by cases bb <;> simp_all
    by_cases c1 : 0 < n
    · by_cases c2 : ((z : Int) == (words : Int)) = true
      · have c3 : (kd == at') = false := by
          have e : z = words := by have := eq_of_beq c2; omega
          simpa [c1, e] using ok'
        clear ok'
        go_enter Tryd.func87, Tryd.ntmps87
        go_wp2_with (first | (go_at_call 95; refine (unhide C1).mono ?_; rintro e w' ⟨rfl, rfl⟩) | (go_at_call 96; refine (unhide C2 _ (by assumption)).mono ?_; rintro e w' ⟨rfl, hb2⟩) | (go_at_call 97; refine (unhide C3 _ (by assumption)).mono ?_; rintro e w' ⟨rfl, hb3⟩) | (go_at_call 69; refine (unhide C4 _ (by assumption)).mono ?_; rintro e w' ⟨rfl, hb4⟩))
        go_ret
        exact ⟨ret_bool (by rw [OK.out]; simp), by assumption⟩
      · have c2' : ((z : Int) == (words : Int)) = false := by simpa using c2
        clear c2 ok'
        go_enter Tryd.func87, Tryd.ntmps87
        go_wp2_with (first | (go_at_call 95; refine (unhide C1).mono ?_; rintro e w' ⟨rfl, rfl⟩) | (go_at_call 96; refine (unhide C2 _ (by assumption)).mono ?_; rintro e w' ⟨rfl, hb2⟩) | (go_at_call 97; refine (unhide C3 _ (by assumption)).mono ?_; rintro e w' ⟨rfl, hb3⟩) | (go_at_call 69; refine (unhide C4 _ (by assumption)).mono ?_; rintro e w' ⟨rfl, hb4⟩))
        go_ret
        exact ⟨ret_bool (by rw [OK.out]; simp), by assumption⟩
    · clear ok'
      go_enter Tryd.func87, Tryd.ntmps87
      go_wp2_with (first | (go_at_call 95; refine (unhide C1).mono ?_; rintro e w' ⟨rfl, rfl⟩) | (go_at_call 96; refine (unhide C2 _ (by assumption)).mono ?_; rintro e w' ⟨rfl, hb2⟩) | (go_at_call 97; refine (unhide C3 _ (by assumption)).mono ?_; rintro e w' ⟨rfl, hb3⟩) | (go_at_call 69; refine (unhide C4 _ (by assumption)).mono ?_; rintro e w' ⟨rfl, hb4⟩))
      go_ret
      exact ⟨ret_bool (by rw [OK.out]; simp), by assumption⟩
end Go.Proofs.YtgegkcjllliifabDoor
