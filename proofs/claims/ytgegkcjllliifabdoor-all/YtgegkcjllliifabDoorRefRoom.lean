/-
  The walks of the reference heap's Fits (whole), Room, Busy, Word.
-/
import Derived.Test.YtgegkcjllliifabDoorRefFits
namespace Go.Proofs.YtgegkcjllliifabDoor
open Go.RowKit

set_option maxHeartbeats 400000 in
theorem fits_any (R : RL) (m : Mo) (a : Int) (words : Nat) (at' : Bool) (w : World) (h : RefIs w R m) (bd : m.bd) (hw : 1 ≤ words) (hw2 : words ≤ 1536) :
    Calls Tryd.prog 87 #[.pointer (some ⟨R.r, 0, none⟩), .int .i64 a, .int .i64 words, .bool at'] w fun e w' => e = .returned (.bool (m.fits a words at')) ∧ Below w.heap.size w w' := by
  unfold Mo.fits
  rcases page_cases m a with hp | ⟨p, hp, p1, p2, p3⟩
  · rw [if_pos (by omega)]
    have C := hide (page_any R m a w h bd)
    rw [hp] at C
    clear h bd hp
    go_enter Tryd.func87, Tryd.ntmps87
    go_wp2_with (go_at_call 95; refine (unhide C).mono ?_; rintro e w' ⟨rfl, rfl⟩)
    go_ret
    exact ⟨rfl, Below.refl _ _⟩
  · rw [if_neg (by omega)]
    by_cases c : 16 < words
    · rw [if_pos c, hp]
      exact fits_great R m a p words at' w h bd c hw2 hp p1 p2 p3
    · rw [if_neg c, hp]
      exact fits_small R m a (m.find a) p words (m.on p).1 (m.on p).2.1 (m.on p).2.2 at' (m.bare p at') w h bd hw (by omega) hp p1 p2 p3 rfl rfl rfl

/-- May it lie anywhere? -/
def Mo.room (m : Mo) (words : Nat) (at' : Bool) : Bool := (List.range m.pages).any fun p => (List.range 32).any fun k => m.fits (1048576 + (p : Int) * 256 + 8 * (k : Int)) words at'
theorem room_true (m : Mo) (words : Nat) (at' : Bool) (p k : Nat) (hp : p < m.pages) (hk : k < 32) (h : m.fits (1048576 + (p : Int) * 256 + 8 * (k : Int)) words at' = true) : m.room words at' = true := by
  unfold Mo.room
  rw [List.any_eq_true]
  refine ⟨p, by simpa using hp, ?_⟩
  rw [List.any_eq_true]
  exact ⟨k, by simpa using hk, h⟩
theorem room_false (m : Mo) (words : Nat) (at' : Bool) (h : ∀ p, p < m.pages → ∀ k : Nat, k < 32 → m.fits (1048576 + (p : Int) * 256 + 8 * (k : Int)) words at' = false) : m.room words at' = false := by
  unfold Mo.room
  rw [List.any_eq_false]
  intro p hp
  rw [Bool.not_eq_true, List.any_eq_false]
  intro k hk
  rw [h p (by simpa using hp) k (by simpa using hk)]
  simp

set_option maxHeartbeats 800000 in
theorem room_any (R : RL) (m : Mo) (words : Nat) (at' : Bool) (w : World) (h : RefIs w R m) (bd : m.bd) (hw : 1 ≤ words) (hw2 : words ≤ 1536) :
    Calls Tryd.prog 86 #[.pointer (some ⟨R.r, 0, none⟩), .int .i64 words, .bool at'] w fun e w' => e = .returned (.bool (m.room words at')) ∧ Below w.heap.size w w' := by
  have C : Hid (∀ w1 a, Below w.heap.size w w1 → Calls Tryd.prog 87 #[.pointer (some ⟨R.r, 0, none⟩), .int .i64 a, .int .i64 words, .bool at'] w1 fun e w' => e = .returned (.bool (m.fits a words at')) ∧ Below w.heap.size w w') :=
    fun w1 a hb => chain_below hb (fits_any R m a words at' w1 (h.below hb) bd hw hw2)
  have b2 := bd.p2
  have HH := hide h
  clear h bd
  go_enter Tryd.func86, Tryd.ntmps86
  go_wp2
  go_loopw [7] (fun i wr => ∃ p : Nat, p ≤ m.pages ∧ i = .int .i64 p ∧ Below w.heap.size w wr ∧ Hid (∀ q, q < p → ∀ k : Nat, k < 32 → m.fits (1048576 + (q : Int) * 256 + 8 * (k : Int)) words at' = false)) (fun i _ => m.pages - (intOf i).toNat)
  case atStart => exact ⟨0, by omega, rfl, Below.refl _ _, fun q hq => absurd hq (by omega)⟩
  case round =>
    obtain ⟨p, hp, rfl, hB, HE⟩ := hrel
    have fp := ((unhide HH).below hB).cells.1
    by_cases hlt : p < m.pages
    · go_wp2
      clear fp
      go_loopw [9] (fun i wr => ∃ k : Nat, k ≤ 32 ∧ i = .int .i64 k ∧ Below w.heap.size w wr ∧ Hid (∀ j, j < k → m.fits (1048576 + (p : Int) * 256 + 8 * (j : Int)) words at' = false)) (fun i _ => 32 - (intOf i).toNat)
      case atStart => exact ⟨0, by omega, rfl, hB, fun q hq => absurd hq (by omega)⟩
      case round =>
        obtain ⟨k, hk, rfl, hB2, HE2⟩ := hrel
        by_cases hlt2 : k < 32
        · obtain ⟨b, hb⟩ : ∃ b, m.fits (1048576 + (p : Int) * 256 + 8 * (k : Int)) words at' = b := ⟨_, rfl⟩
          have C3 := hide (unhide C _ (1048576 + (p : Int) * 256 + 8 * (k : Int)) hB2)
          rw [hb] at C3
          cases b
          · have HT : Hid (∀ j, j < k + 1 → m.fits (1048576 + (p : Int) * 256 + 8 * (j : Int)) words at' = false) := by
              intro j hj
              by_cases e : j = k
              · rw [e]; exact hb
              · exact HE2.out j (by omega)
            clear hb
            go_wp2_with (go_at_call 87; refine (unhide C3).mono ?_; rintro e w' ⟨rfl, hb2⟩)
            go_roundw
            case rel => first | exact ⟨k + 1, by omega, by go_num, by assumption, HT⟩ | ((repeat apply Exists.intro); exact ⟨⟨k + 1, by omega, by go_num, by assumption, HT⟩, rfl⟩)
            case measure => simp [intOf]; omega
          · have HT := hide (room_true m words at' p k hlt hlt2 hb)
            clear hb
            go_wp2_with (go_at_call 87; refine (unhide C3).mono ?_; rintro e w' ⟨rfl, hb2⟩)
            go_ret
            exact ⟨ret_bool HT.out.symm, by assumption⟩
        · obtain rfl : k = 32 := by omega
          have HT : Hid (∀ q, q < p + 1 → ∀ k : Nat, k < 32 → m.fits (1048576 + (q : Int) * 256 + 8 * (k : Int)) words at' = false) := by
            intro q hq k hk
            by_cases e : q = p
            · rw [e]; exact HE2.out k hk
            · exact HE.out q (by omega) k hk
          go_wp2
          go_roundw
          case rel => first | exact ⟨p + 1, by omega, by go_num, hB2, HT⟩ | ((repeat apply Exists.intro); exact ⟨⟨p + 1, by omega, by go_num, hB2, HT⟩, rfl⟩)
          case measure => simp [intOf]; omega
    · obtain rfl : p = m.pages := by omega
      have HT := hide (room_false m words at' HE.out)
      go_wp2
      go_ret
      exact ⟨ret_bool HT.out.symm, hB⟩

/-- How many of the first k pages have objects. -/
def Mo.busyTo (m : Mo) : Nat → Nat
  | 0 => 0
  | k + 1 => m.busyTo k + if 0 < (m.on k).1 then 1 else 0
def Mo.busy (m : Mo) : Nat := m.busyTo m.pages
theorem busyTo_le (m : Mo) (k : Nat) : m.busyTo k ≤ k := by
  induction k with
  | zero => exact Nat.le_refl _
  | succ k ih => simp only [Mo.busyTo]; split <;> omega

set_option maxHeartbeats 400000 in
theorem busy_any (R : RL) (m : Mo) (w : World) (h : RefIs w R m) (bd : m.bd) :
    Calls Tryd.prog 89 #[.pointer (some ⟨R.r, 0, none⟩)] w fun e w' => e = .returned (.int .i64 m.busy) ∧ Below w.heap.size w w' := by
  have b2 := bd.p2
  have C : Hid (∀ w1 (p : Nat), p ≤ 100 → Below w.heap.size w w1 → Calls Tryd.prog 97 #[.pointer (some ⟨R.r, 0, none⟩), .int .i64 p] w1 fun e w' => e = .returned (.tuple #[.int .i64 (m.on p).1, .int .i64 (m.on p).2.1, .bool (m.on p).2.2]) ∧ Below w.heap.size w w') :=
    fun w1 p hp hb => chain_below hb (on_any R m p w1 (h.below hb) bd hp)
  have HH := hide h
  clear h bd
  go_enter Tryd.func89, Tryd.ntmps89
  go_wp2
  go_loopw [3, 4] (fun x i wr => ∃ k : Nat, k ≤ m.pages ∧ i = .int .i64 k ∧ x = .int .i64 (m.busyTo k) ∧ Below w.heap.size w wr) (fun _ i _ => m.pages - (intOf i).toNat)
  case atStart => exact ⟨0, by omega, rfl, rfl, Below.refl _ _⟩
  case round =>
    obtain ⟨k, hk, rfl, rfl, hB⟩ := hrel
    have fp := ((unhide HH).below hB).cells.1
    have hle := busyTo_le m k
    by_cases hlt : k < m.pages
    · have C3 := hide (unhide C _ k (by omega) hB)
      have HS : Hid (m.busyTo (k + 1) = m.busyTo k + if 0 < (m.on k).1 then 1 else 0) := hide rfl
      generalize m.on k = o at C3 HS
      obtain ⟨n, z, kd⟩ := o
      dsimp only at C3 HS
      generalize m.busyTo k = x at HS hle ⊢
      by_cases c : 0 < n
      · go_wp2_with (go_at_call 97; refine (unhide C3).mono ?_; rintro e w' ⟨rfl, hb2⟩)
        go_roundw
        case rel => first | exact ⟨k + 1, by omega, by go_num, by rw [HS.out, if_pos c]; go_num, by assumption⟩ | ((repeat apply Exists.intro); exact ⟨⟨k + 1, by omega, by go_num, by rw [HS.out, if_pos c]; go_num, by assumption⟩, rfl⟩)
        case measure => simp [intOf]; omega
      · go_wp2_with (go_at_call 97; refine (unhide C3).mono ?_; rintro e w' ⟨rfl, hb2⟩)
        go_roundw
        case rel => first | exact ⟨k + 1, by omega, by go_num, by rw [HS.out, if_neg (by omega)]; go_num, by assumption⟩ | ((repeat apply Exists.intro); exact ⟨⟨k + 1, by omega, by go_num, by rw [HS.out, if_neg (by omega)]; go_num, by assumption⟩, rfl⟩)
        case measure => simp [intOf]; omega
    · obtain rfl : k = m.pages := by omega
      go_wp2
      go_ret
      exact ⟨ret_int rfl, hB⟩
end Go.Proofs.YtgegkcjllliifabDoor
