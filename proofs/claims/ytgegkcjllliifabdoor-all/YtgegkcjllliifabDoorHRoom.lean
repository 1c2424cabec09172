/-
  The walks of anyBegins, holds, freePlace, sharedRoom, freeFor, emptyRoom, roomFor.
-/
import Derived.Test.YtgegkcjllliifabDoorHFind
namespace Go.Proofs.YtgegkcjllliifabDoor
open Go.RowKit

/-- Does an object begin on page p? -/
def St.any (s : St) (p : Nat) : Bool := (List.range 32).any fun j => s.beg (p * 32 + j)
theorem any_true {s : St} {p k : Nat} (h1 : p * 32 ≤ k) (h2 : k < p * 32 + 32) (h : s.beg k = true) : s.any p = true := by
  unfold St.any
  rw [List.any_eq_true]
  exact ⟨k - p * 32, by simp; omega, by rw [show p * 32 + (k - p * 32) = k by omega]; exact h⟩
theorem any_false {s : St} {p : Nat} (h : ∀ k, p * 32 ≤ k → k < p * 32 + 32 → s.beg k = false) : s.any p = false := by
  unfold St.any
  rw [List.any_eq_false]
  intro j hj
  simp at hj
  rw [h (p * 32 + j) (by omega) (by omega)]
  simp
theorem any_iff {s : St} {p : Nat} : s.any p = true ↔ ∃ k, p * 32 ≤ k ∧ k < p * 32 + 32 ∧ s.beg k = true := by
  constructor
  · intro h
    unfold St.any at h
    rw [List.any_eq_true] at h
    obtain ⟨j, hj, hb⟩ := h
    simp at hj
    exact ⟨p * 32 + j, by omega, by omega, hb⟩
  · rintro ⟨k, h1, h2, h3⟩
    exact any_true h1 h2 h3
/-- Does an object lie on page p? -/
def St.held (s : St) (p : Nat) : Bool := s.any (p - (s.back p).toNat)

set_option maxHeartbeats 400000 in
theorem anyBegins_any (L : HL) (s : St) (p : Nat) (w : World) (R : Rep w L s) (hp : p < s.n) :
    Calls Tryd.prog 83 #[.pointer (some ⟨L.h, 0, none⟩), .int .i64 p] w fun e w' => e = .returned (.bool (s.any p)) ∧ w' = w := by
  have n2 := R.n2
  have fb := R.cells.fb
  have RR := hide R
  clear R
  go_enter Tryd.func83, Tryd.ntmps83
  go_wp2
  go_loop [6] (fun i => ∃ k : Nat, p * 32 ≤ k ∧ k ≤ p * 32 + 32 ∧ i = .int .i64 k ∧ Hid (∀ j, p * 32 ≤ j → j < k → s.beg j = false)) (fun i => p * 32 + 64 - (intOf i).toNat)
  case atStart => exact ⟨p * 32, by omega, by omega, by go_num, fun j h1 h2 => by omega⟩
  case round =>
    obtain ⟨k, hk1, hk2, rfl, HE⟩ := hrel
    by_cases hlt : k < p * 32 + 32
    · have bs := (unhide RR).cells.bs k (by omega)
      obtain ⟨b, hb⟩ : ∃ b, s.beg k = b := ⟨_, rfl⟩
      rw [hb] at bs
      have HB := hide hb
      clear hb
      cases b
      · go_wp2
        go_round
        case rel => exact ⟨k + 1, by omega, by omega, by go_num, fun j h1 h2 => by
            by_cases e : j = k
            · rw [e]; exact unhide HB
            · exact HE.out j h1 (by omega)⟩
        case measure => simp [intOf]; omega
      · go_wp2
        go_ret
        exact ⟨ret_bool (any_true hk1 hlt (unhide HB)).symm, rfl⟩
    · have HF : Hid (s.any p = false) := any_false fun j h1 h2 => HE.out j h1 (by omega)
      go_wp2
      go_ret
      exact ⟨ret_bool (unhide HF).symm, rfl⟩

set_option maxHeartbeats 400000 in
theorem holds_any (L : HL) (s : St) (p : Nat) (w : World) (R : Rep w L s) (ok : s.ok) (hp : p < s.n) :
    Calls Tryd.prog 92 #[.pointer (some ⟨L.h, 0, none⟩), .int .i64 p] w fun e w' => e = .returned (.bool (s.held p)) ∧ w' = w := by
  obtain ⟨o1, o2, o3, o4⟩ := ok p hp
  have n2 := R.n2
  have fp := R.cells.fp
  have pk := R.cells.pk p hp
  obtain ⟨b, hb⟩ : ∃ b : Nat, s.back p = b := ⟨(s.back p).toNat, by omega⟩
  have C := anyBegins_any L s (p - b) w R (by omega)
  have HS : Hid (s.held p = s.any (p - b)) := by unfold St.held; rw [hb]; exact rfl
  have e : ((p - b : Nat) : Int) = (p : Int) - (b : Int) := by omega
  rw [e] at C
  rw [hb] at pk
  have hbp : b ≤ p := by omega
  have CC := hide C
  clear C R hb o1 o2 o3 o4 e
  go_enter Tryd.func92, Tryd.ntmps92
  go_wp2_with (go_at_call 83; refine (unhide CC).mono ?_; rintro e w' ⟨rfl, rfl⟩)
  go_ret
  exact ⟨ret_bool (unhide HS).symm, rfl⟩

/-- The lowest free place from word k on, of a page that begins at word st: with f rounds at the most. -/
def freeFrom (s : St) (st sz : Nat) : Nat → Nat → Option Nat
  | 0, _ => none
  | f + 1, k => if k + sz ≤ st + 32 then (if s.beg k then freeFrom s st sz f (k + sz) else some k) else none
def freeAt (s : St) (p sz : Nat) : Option Nat := freeFrom s (p * 32) sz 33 (p * 32)

theorem freeFrom_out (s : St) (st sz f k : Nat) (h : st + 32 < k + sz) : freeFrom s st sz f k = none := by
  cases f with
  | zero => rfl
  | succ f => simp only [freeFrom]; rw [if_neg (by omega)]
theorem freeFrom_hit (s : St) (st sz f k : Nat) (h : k + sz ≤ st + 32) (hf : 1 ≤ f) (hb : s.beg k = false) : freeFrom s st sz f k = some k := by
  obtain ⟨g, rfl⟩ : ∃ g, f = g + 1 := ⟨f - 1, by omega⟩
  simp only [freeFrom]; rw [if_pos h, hb]; rfl
theorem freeFrom_on (s : St) (st sz f k : Nat) (h : k + sz ≤ st + 32) (hf : 1 ≤ f) (hb : s.beg k = true) : freeFrom s st sz f k = freeFrom s st sz (f - 1) (k + sz) := by
  obtain ⟨g, rfl⟩ : ∃ g, f = g + 1 := ⟨f - 1, by omega⟩
  simp only [freeFrom, Nat.add_sub_cancel]; rw [if_pos h, hb]; rfl

set_option maxHeartbeats 400000 in
theorem freePlace_any (L : HL) (s : St) (p sz : Nat) (w : World) (R : Rep w L s) (hp : p < s.n) (h1 : 1 ≤ sz) (h2 : sz ≤ 16) :
    Calls Tryd.prog 93 #[.pointer (some ⟨L.h, 0, none⟩), .int .i64 p, .int .i64 sz] w fun e w' => e = .returned (.int .i64 (optInt (freeAt s p sz))) ∧ w' = w := by
  have n2 := R.n2
  have fb := R.cells.fb
  have RR := hide R
  clear R
  go_enter Tryd.func93, Tryd.ntmps93
  go_wp2
  go_loop [8] (fun i => ∃ k f : Nat, p * 32 ≤ k ∧ k ≤ p * 32 + 48 ∧ p * 32 + 33 ≤ k + f ∧ i = .int .i64 k ∧ Hid (freeAt s p sz = freeFrom s (p * 32) sz f k)) (fun i => p * 32 + 64 - (intOf i).toNat)
  case atStart => exact ⟨p * 32, 33, by omega, by omega, by omega, by go_num, hide rfl⟩
  case round =>
    obtain ⟨k, f, hk1, hk2, hf, rfl, HE⟩ := hrel
    by_cases hlt : k + sz ≤ p * 32 + 32
    · have bs := (unhide RR).cells.bs k (by omega)
      obtain ⟨b, hb⟩ : ∃ b, s.beg k = b := ⟨_, rfl⟩
      rw [hb] at bs
      have HB := hide hb
      clear hb
      cases b
      · go_wp2
        go_ret
        exact ⟨ret_int (by rw [HE.out, freeFrom_hit s _ sz f k hlt (by omega) HB.out]; rfl), rfl⟩
      · go_wp2
        go_round
        case rel => exact ⟨k + sz, f - 1, by omega, by omega, by omega, by go_num, hide (by rw [HE.out, freeFrom_on s _ sz f k hlt (by omega) HB.out])⟩
        case measure => simp [intOf]; omega
    · go_wp2
      go_ret
      exact ⟨ret_int (by rw [HE.out, freeFrom_out s _ sz f k (by omega)]; rfl), rfl⟩

/-- A place on page p for an object of that size and kind beside others, or none. -/
def St.share (s : St) (sz : Nat) (at' : Bool) (p : Nat) : Option Nat := if s.size p = sz ∧ s.atom p = at' ∧ s.held p = true then freeAt s p sz else none
/-- The lowest of them on the last m pages. -/
def sharedFrom (s : St) (sz : Nat) (at' : Bool) : Nat → Option Nat
  | 0 => none
  | m + 1 => match s.share sz at' (s.n - (m + 1)) with
    | some k => some k
    | none => sharedFrom s sz at' m

theorem sharedFrom_step (s : St) (sz : Nat) (at' : Bool) (k : Nat) (h : k < s.n) : sharedFrom s sz at' (s.n - k) = match s.share sz at' k with | some k => some k | none => sharedFrom s sz at' (s.n - (k + 1)) := by
  obtain ⟨m, hm⟩ : ∃ m, s.n - k = m + 1 := ⟨s.n - k - 1, by omega⟩
  have e : s.n - (m + 1) = k := by omega
  have e' : s.n - (k + 1) = m := by omega
  rw [hm, e', sharedFrom, e]

theorem optInt_ne (k : Nat) : (((k : Nat) : Int) != -1) = true := by simp

set_option maxHeartbeats 800000 in
theorem sharedRoom_any (L : HL) (s : St) (sz : Nat) (at' : Bool) (w : World) (R : Rep w L s) (ok : s.ok) (h1 : 1 ≤ sz) (h2 : sz ≤ 16) :
    Calls Tryd.prog 81 #[.pointer (some ⟨L.h, 0, none⟩), .int .i64 sz, .bool at'] w fun e w' => e = .returned (.int .i64 (optInt (sharedFrom s sz at' s.n))) ∧ Below w.heap.size w w' := by
  have n2 := R.n2
  have fp := R.cells.fp
  have RR := hide R
  have OK := hide ok
  clear R ok
  go_enter Tryd.func81, Tryd.ntmps81
  go_wp2
  go_loopw [15] (fun i wr => ∃ k : Nat, k ≤ s.n ∧ i = .int .i64 k ∧ Below w.heap.size w wr ∧ Hid (sharedFrom s sz at' s.n = sharedFrom s sz at' (s.n - k))) (fun i _ => s.n - (intOf i).toNat)
  case atStart => exact ⟨0, by omega, rfl, Below.refl _ _, hide rfl⟩
  case round =>
    obtain ⟨k, hk, rfl, hB, HE⟩ := hrel
    clear fp
    by_cases hlt : k < s.n
    · have R' := (unhide RR).below hB
      have c := R'.cells
      have ps := c.ps k hlt
      have pa := c.pa k hlt
      have pk := c.pk k hlt
      have pu := c.pu k hlt
      have l1 := c.l1
      have l2 := c.l2
      have RW := hide R'
      clear R' c
      by_cases c1 : s.size k = sz
      · by_cases c2 : s.atom k = at'
        · have CH : Hid (∀ w1, Rep w1 L s → Calls Tryd.prog 92 #[.pointer (some ⟨L.h, 0, none⟩), .int .i64 k] w1 fun e w' => e = .returned (.bool (s.held k)) ∧ w' = w1) := fun w1 r1 => holds_any L s k w1 r1 (unhide OK) hlt
          rw [c1] at ps
          rw [c2] at pa
          by_cases c0 : s.held k = true
          · rw [c0] at CH
            have C : Hid (∀ w1, Rep w1 L s → Calls Tryd.prog 93 #[.pointer (some ⟨L.h, 0, none⟩), .int .i64 k, .int .i64 sz] w1 fun e w' => e = .returned (.int .i64 (optInt (freeAt s k sz))) ∧ w' = w1) := by
              intro w1 r1
              exact freePlace_any L s k sz w1 r1 hlt h1 h2
            have HX : Hid (s.share sz at' k = freeAt s k sz) := if_pos ⟨c1, c2, c0⟩
            cases hx : freeAt s k sz with
            | none =>
              have HS : Hid (sharedFrom s sz at' (s.n - k) = sharedFrom s sz at' (s.n - (k + 1))) := by
                rw [sharedFrom_step s sz at' k hlt, unhide HX, hx]; exact rfl
              rw [hx] at C
              unfold optInt at C
              clear c1 c2 hx c0 HX
              go_wp2_with (first | (go_at_call 92; refine (unhide CH _ ((unhide RW).below ((Below.refl _ _).alloc (Nat.le_refl _) _))).mono ?_; rintro e w' ⟨rfl, rfl⟩) | (go_at_call 93; refine (unhide C _ ((unhide RW).below ((Below.refl _ _).alloc (Nat.le_refl _) _))).mono ?_; rintro e w' ⟨rfl, rfl⟩))
              go_roundw
              case rel => exact ⟨k + 1, by omega, by go_num, hB.alloc hB.size _, hide (HE.out.trans HS.out)⟩
              case measure => simp [intOf]; omega
            | some x =>
              have HS : Hid (sharedFrom s sz at' (s.n - k) = some x) := by
                rw [sharedFrom_step s sz at' k hlt, unhide HX, hx]; exact rfl
              rw [hx] at C
              unfold optInt at C
              have hne := optInt_ne x
              clear c1 c2 hx c0 HX
              go_wp2_with (first | (go_at_call 92; refine (unhide CH _ ((unhide RW).below ((Below.refl _ _).alloc (Nat.le_refl _) _))).mono ?_; rintro e w' ⟨rfl, rfl⟩) | (go_at_call 93; refine (unhide C _ ((unhide RW).below ((Below.refl _ _).alloc (Nat.le_refl _) _))).mono ?_; rintro e w' ⟨rfl, rfl⟩))
              go_ret
              exact ⟨ret_int (by rw [HE.out, HS.out]; rfl), hB.alloc hB.size _⟩
          · have HS : Hid (sharedFrom s sz at' (s.n - k) = sharedFrom s sz at' (s.n - (k + 1))) := by
              rw [sharedFrom_step s sz at' k hlt, show s.share sz at' k = none from if_neg (fun h => c0 h.2.2)]; exact rfl
            have c0' : s.held k = false := by simpa using c0
            rw [c0'] at CH
            clear c1 c2 c0 c0'
            go_wp2_with (go_at_call 92; refine (unhide CH _ ((unhide RW).below ((Below.refl _ _).alloc (Nat.le_refl _) _))).mono ?_; rintro e w' ⟨rfl, rfl⟩)
            go_roundw
            case rel => exact ⟨k + 1, by omega, by go_num, hB.alloc hB.size _, hide (HE.out.trans HS.out)⟩
            case measure => simp [intOf]; omega
        · have HS : Hid (sharedFrom s sz at' (s.n - k) = sharedFrom s sz at' (s.n - (k + 1))) := by
            rw [sharedFrom_step s sz at' k hlt, show s.share sz at' k = none from if_neg (fun h => c2 h.2.1)]; exact rfl
          rw [c1] at ps
          have c2' : (s.atom k == at') = false := by simpa using c2
          clear c1 c2
          go_wp2
          go_roundw
          case rel => exact ⟨k + 1, by omega, by go_num, hB.alloc hB.size _, hide (HE.out.trans HS.out)⟩
          case measure => simp [intOf]; omega
      · have HS : Hid (sharedFrom s sz at' (s.n - k) = sharedFrom s sz at' (s.n - (k + 1))) := by
          rw [sharedFrom_step s sz at' k hlt, show s.share sz at' k = none from if_neg (fun h => c1 h.1)]; exact rfl
        have c1' : (s.size k != sz) = true := by simpa using c1
        go_wp2
        go_roundw
        case rel => exact ⟨k + 1, by omega, by go_num, hB.alloc hB.size _, hide (HE.out.trans HS.out)⟩
        case measure => simp [intOf]; omega
    · have HS : Hid (sharedFrom s sz at' (s.n - k) = none) := by
        have : s.n - k = 0 := by omega
        rw [this]; exact rfl
      go_wp2
      go_ret
      exact ⟨ret_int (by rw [HE.out, HS.out]; rfl), hB⟩

/-- May a new object of that kind take page p? -/
def St.free (s : St) (p : Nat) (at' : Bool) : Bool := (!s.blk p || at') && !s.held p

set_option maxHeartbeats 400000 in
theorem freeFor_any (L : HL) (s : St) (p : Nat) (at' : Bool) (w : World) (R : Rep w L s) (ok : s.ok) (hp : p < s.n) :
    Calls Tryd.prog 94 #[.pointer (some ⟨L.h, 0, none⟩), .int .i64 p, .bool at'] w fun e w' => e = .returned (.bool (s.free p at')) ∧ w' = w := by
  have n2 := R.n2
  have fk := R.cells.fk
  have ks := R.cells.ks p hp
  have C := hide (holds_any L s p w R ok hp)
  obtain ⟨b, hb⟩ : ∃ b, s.blk p = b := ⟨_, rfl⟩
  obtain ⟨g, hg⟩ : ∃ g, s.held p = g := ⟨_, rfl⟩
  have HS : Hid (s.free p at' = ((!b || at') && !g)) := by unfold St.free; rw [hb, hg]; exact rfl
  rw [hb] at ks
  rw [hg] at C
  clear R ok hb hg
  cases b <;> cases at' <;> cases g
  all_goals
    go_enter Tryd.func94, Tryd.ntmps94
    go_wp2_with (go_at_call 92; refine (unhide C).mono ?_; rintro e w' ⟨rfl, rfl⟩)
    go_ret
    exact ⟨ret_bool (unhide HS).symm, rfl⟩

/-- The first page of the lowest run of count pages that may be taken among the last m pages, run of them ahead already. -/
def emptyFrom (s : St) (at' : Bool) (count : Nat) : Nat → Nat → Option Nat
  | 0, _ => none
  | m + 1, run => if s.free (s.n - (m + 1)) at' then (if run + 1 = count then some ((s.n - m - count) * 32) else emptyFrom s at' count m (run + 1)) else emptyFrom s at' count m 0

theorem emptyFrom_step (s : St) (at' : Bool) (count k run : Nat) (h : k < s.n) : emptyFrom s at' count (s.n - k) run = if s.free k at' then (if run + 1 = count then some ((k + 1 - count) * 32) else emptyFrom s at' count (s.n - (k + 1)) (run + 1)) else emptyFrom s at' count (s.n - (k + 1)) 0 := by
  obtain ⟨m, hm⟩ : ∃ m, s.n - k = m + 1 := ⟨s.n - k - 1, by omega⟩
  have e : s.n - (m + 1) = k := by omega
  have e' : s.n - (k + 1) = m := by omega
  have e'' : s.n - m = k + 1 := by omega
  rw [hm, e', emptyFrom, e, e'']

set_option maxHeartbeats 800000 in
theorem emptyRoom_any (L : HL) (s : St) (count : Nat) (at' : Bool) (w : World) (R : Rep w L s) (ok : s.ok) (h1 : 1 ≤ count) (h2 : count ≤ 48) :
    Calls Tryd.prog 82 #[.pointer (some ⟨L.h, 0, none⟩), .int .i64 count, .bool at'] w fun e w' => e = .returned (.int .i64 (optInt (emptyFrom s at' count s.n 0))) ∧ w' = w := by
  have n2 := R.n2
  have fp := R.cells.fp
  have RR := hide R
  have OK := hide ok
  clear R ok
  go_enter Tryd.func82, Tryd.ntmps82
  go_wp2
  go_loop [7, 14] (fun r i => ∃ k run : Nat, k ≤ s.n ∧ run ≤ k ∧ i = .int .i64 k ∧ r = .int .i64 run ∧ Hid (emptyFrom s at' count s.n 0 = emptyFrom s at' count (s.n - k) run)) (fun _ i => s.n - (intOf i).toNat)
  case atStart => exact ⟨0, 0, by omega, by omega, rfl, rfl, hide rfl⟩
  case round =>
    obtain ⟨k, run, hk, hrun, rfl, rfl, HE⟩ := hrel
    clear fp
    by_cases hlt : k < s.n
    · have C := hide (freeFor_any L s k at' w (unhide RR) (unhide OK) hlt)
      by_cases c1 : s.free k at' = true
      · rw [c1] at C
        by_cases c2 : run + 1 = count
        · have HS : Hid (emptyFrom s at' count (s.n - k) run = some ((k + 1 - count) * 32)) := by
            rw [emptyFrom_step s at' count k run hlt, if_pos c1, if_pos c2]; exact rfl
          have c2' : ((run : Int) + 1 == (count : Int)) = true := by simp; omega
          have hle : count ≤ k + 1 := by omega
          clear c1 c2
          go_wp2_with (go_at_call 94; refine (unhide C).mono ?_; rintro e w' ⟨rfl, rfl⟩)
          go_ret
          exact ⟨ret_int (by rw [HE.out, HS.out]; show _ = (((k + 1 - count) * 32 : Nat) : Int); omega), rfl⟩
        · have HS : Hid (emptyFrom s at' count (s.n - k) run = emptyFrom s at' count (s.n - (k + 1)) (run + 1)) := by
            rw [emptyFrom_step s at' count k run hlt, if_pos c1, if_neg c2]; exact rfl
          have c2' : ((run : Int) + 1 == (count : Int)) = false := by simp; omega
          clear c1 c2
          go_wp2_with (go_at_call 94; refine (unhide C).mono ?_; rintro e w' ⟨rfl, rfl⟩)
          go_round
          case rel => exact ⟨k + 1, run + 1, by omega, by omega, by go_num, by go_num, hide (HE.out.trans HS.out)⟩
          case measure => simp [intOf]; omega
      · have HS : Hid (emptyFrom s at' count (s.n - k) run = emptyFrom s at' count (s.n - (k + 1)) 0) := by
          rw [emptyFrom_step s at' count k run hlt, if_neg c1]; exact rfl
        have c1' : s.free k at' = false := by simpa using c1
        rw [c1'] at C
        clear c1 c1'
        go_wp2_with (go_at_call 94; refine (unhide C).mono ?_; rintro e w' ⟨rfl, rfl⟩)
        go_round
        case rel => exact ⟨k + 1, 0, by omega, by omega, by go_num, by go_num, hide (HE.out.trans HS.out)⟩
        case measure => simp [intOf]; omega
    · have HS : Hid (emptyFrom s at' count (s.n - k) run = none) := by
        have : s.n - k = 0 := by omega
        rw [this]; exact rfl
      go_wp2
      go_ret
      exact ⟨ret_int (by rw [HE.out, HS.out]; rfl), rfl⟩

/-- Where an object of that size and kind is laid: its first word. -/
def St.place (s : St) (sz : Nat) (at' : Bool) : Option Nat :=
  match (if sz ≤ 16 then sharedFrom s sz at' s.n else none) with
  | some k => some k
  | none => emptyFrom s at' ((sz + 31) / 32) s.n 0

set_option maxHeartbeats 800000 in
theorem roomFor_any (L : HL) (s : St) (sz : Nat) (at' : Bool) (w : World) (R : Rep w L s) (ok : s.ok) (h1 : 1 ≤ sz) (h2 : sz ≤ 1536) :
    Calls Tryd.prog 57 #[.pointer (some ⟨L.h, 0, none⟩), .int .i64 sz, .bool at'] w fun e w' => e = .returned (.int .i64 (optInt (s.place sz at'))) ∧ Below w.heap.size w w' := by
  have CE : Hid (∀ w1, Below w.heap.size w w1 → Calls Tryd.prog 82 #[.pointer (some ⟨L.h, 0, none⟩), .int .i64 (((sz : Int) + 32 - 1) / 32), .bool at'] w1 fun e w' => e = .returned (.int .i64 (optInt (emptyFrom s at' ((sz + 31) / 32) s.n 0))) ∧ w' = w1) := by
    intro w1 b1
    have := emptyRoom_any L s ((sz + 31) / 32) at' w1 (R.below b1) ok (by omega) (by omega)
    have e : (((sz + 31) / 32 : Nat) : Int) = ((sz : Int) + 32 - 1) / 32 := by omega
    rw [e] at this
    exact this
  by_cases c : sz ≤ 16
  · have C := hide (sharedRoom_any L s sz at' w R ok h1 c)
    cases hx : sharedFrom s sz at' s.n with
    | none =>
      have HS : Hid (s.place sz at' = emptyFrom s at' ((sz + 31) / 32) s.n 0) := by
        unfold St.place; rw [if_pos c, hx]; exact rfl
      rw [hx] at C
      simp only [optInt.eq_1] at C
      clear hx R
      go_enter Tryd.func57, Tryd.ntmps57
      go_wp2_with (first | (go_at_call 81; refine (unhide C).mono ?_; rintro e w1 ⟨rfl, hb⟩) | (go_at_call 82; refine (unhide CE _ (by assumption)).mono ?_; rintro e w2 ⟨rfl, rfl⟩) | go_in)
      go_ret
      exact ⟨ret_int (by rw [HS.out]), by assumption⟩
    | some x =>
      have HS : Hid (s.place sz at' = some x) := by
        unfold St.place; rw [if_pos c, hx]; exact rfl
      rw [hx] at C
      simp only [optInt.eq_2] at C
      have hne := optInt_ne x
      clear hx R
      go_enter Tryd.func57, Tryd.ntmps57
      go_wp2_with (first | (go_at_call 81; refine (unhide C).mono ?_; rintro e w1 ⟨rfl, hb⟩) | go_in)
      go_ret
      exact ⟨ret_int (by rw [HS.out]; rfl), by assumption⟩
  · have HS : Hid (s.place sz at' = emptyFrom s at' ((sz + 31) / 32) s.n 0) := by
      unfold St.place; rw [if_neg c]; exact rfl
    clear R
    have hB0 := Below.refl w.heap.size w
    go_enter Tryd.func57, Tryd.ntmps57
    go_wp2_with (first | (go_at_call 82; refine (unhide CE _ (by assumption)).mono ?_; rintro e w2 ⟨rfl, rfl⟩) | go_in)
    go_ret
    exact ⟨ret_int (by rw [HS.out]), by assumption⟩
end Go.Proofs.YtgegkcjllliifabDoor
