/-
  The walks of freePlace, sharedRoom, emptyRoom, roomFor.
-/
import Derived.Test.YtehbcchebbodlabDoorMem
namespace Go.Proofs.YtehbcchebbodlabDoor
open Go.RowKit

/-- The lowest free place from word k on, of a page that begins at word st: with f rounds at the most. -/
def freeFrom (s : St) (st sz : Nat) : Nat → Nat → Int
  | 0, _ => -1
  | f + 1, k => if k + sz ≤ st + 32 then (if s.beg k then freeFrom s st sz f (k + sz) else (k : Int)) else -1
def freeAt (s : St) (p sz : Nat) : Int := freeFrom s (p * 32) sz 33 (p * 32)

theorem freeFrom_out (s : St) (st sz f k : Nat) (h : st + 32 < k + sz) : freeFrom s st sz f k = -1 := by
  cases f with
  | zero => rfl
  | succ f => simp only [freeFrom]; rw [if_neg (by omega)]
theorem freeFrom_hit (s : St) (st sz f k : Nat) (h : k + sz ≤ st + 32) (hf : 1 ≤ f) (hb : s.beg k = false) : freeFrom s st sz f k = k := by
  obtain ⟨g, rfl⟩ : ∃ g, f = g + 1 := ⟨f - 1, by omega⟩
  simp only [freeFrom]; rw [if_pos h, hb]; rfl
theorem freeFrom_on (s : St) (st sz f k : Nat) (h : k + sz ≤ st + 32) (hf : 1 ≤ f) (hb : s.beg k = true) : freeFrom s st sz f k = freeFrom s st sz (f - 1) (k + sz) := by
  obtain ⟨g, rfl⟩ : ∃ g, f = g + 1 := ⟨f - 1, by omega⟩
  simp only [freeFrom, Nat.add_sub_cancel]; rw [if_pos h, hb]; rfl

set_option maxHeartbeats 400000 in
theorem freePlace_any (L : Lay) (s : St) (p sz : Nat) (w : World) (R : Rep w L s) (hp : p < s.n) (h1 : 1 ≤ sz) (h2 : sz ≤ 16) :
    Calls Tryd.prog 28 #[.pointer (some ⟨L.h, 0, none⟩), .int .i64 p, .int .i64 sz] w fun e w' => e = .returned (.int .i64 (freeAt s p sz)) ∧ w' = w := by
  have n2 := R.n2
  have fb := R.fb
  have RR := hide R
  clear R
  go_enter Tryd.func28, Tryd.ntmps28
  go_wp2
  go_loop [8] (fun i => ∃ k f : Nat, p * 32 ≤ k ∧ k ≤ p * 32 + 48 ∧ p * 32 + 33 ≤ k + f ∧ i = .int .i64 k ∧ Hid (freeAt s p sz = freeFrom s (p * 32) sz f k)) (fun i => p * 32 + 64 - (intOf i).toNat)
  case atStart => exact ⟨p * 32, 33, by omega, by omega, by omega, by go_num, hide rfl⟩
  case round =>
    obtain ⟨k, f, hk1, hk2, hf, rfl, HE⟩ := hrel
    by_cases hlt : k + sz ≤ p * 32 + 32
    · have bs := (unhide RR).bs k (by omega)
      obtain ⟨b, hb⟩ : ∃ b, s.beg k = b := ⟨_, rfl⟩
      rw [hb] at bs
      have HB := hide hb
      clear hb
      cases b
      · go_wp2
        go_ret
        exact ⟨ret_int (by rw [HE.out, freeFrom_hit s _ sz f k hlt (by omega) HB.out]), rfl⟩
      · go_wp2
        go_round
        case rel => exact ⟨k + sz, f - 1, by omega, by omega, by omega, by go_num, hide (by rw [HE.out, freeFrom_on s _ sz f k hlt (by omega) HB.out])⟩
        case measure => simp [intOf]; omega
    · go_wp2
      go_ret
      exact ⟨ret_int (by rw [HE.out, freeFrom_out s _ sz f k (by omega)]), rfl⟩

/-- The lowest free place on the last m pages that hold objects of that size and kind, or -1. -/
def sharedFrom (s : St) (sz : Nat) (at' : Bool) : Nat → Int
  | 0 => -1
  | m + 1 => if s.size (s.n - (m + 1)) = sz ∧ s.atom (s.n - (m + 1)) = at' ∧ freeAt s (s.n - (m + 1)) sz ≠ -1 then freeAt s (s.n - (m + 1)) sz else sharedFrom s sz at' m

theorem sharedFrom_step (s : St) (sz : Nat) (at' : Bool) (k : Nat) (h : k < s.n) : sharedFrom s sz at' (s.n - k) = if s.size k = sz ∧ s.atom k = at' ∧ freeAt s k sz ≠ -1 then freeAt s k sz else sharedFrom s sz at' (s.n - (k + 1)) := by
  obtain ⟨m, hm⟩ : ∃ m, s.n - k = m + 1 := ⟨s.n - k - 1, by omega⟩
  have e : s.n - (m + 1) = k := by omega
  have e' : s.n - (k + 1) = m := by omega
  rw [hm, e', sharedFrom, e]

set_option maxHeartbeats 400000 in
theorem sharedRoom_any (L : Lay) (s : St) (sz : Nat) (at' : Bool) (w : World) (R : Rep w L s) (h1 : 1 ≤ sz) (h2 : sz ≤ 16) :
    Calls Tryd.prog 25 #[.pointer (some ⟨L.h, 0, none⟩), .int .i64 sz, .bool at'] w fun e w' => e = .returned (.int .i64 (sharedFrom s sz at' s.n)) ∧ Below w.heap.size w w' := by
  have n2 := R.n2
  have fp := R.fp
  have RR := hide R
  clear R
  go_enter Tryd.func25, Tryd.ntmps25
  go_wp2
  go_loopw [15] (fun i wr => ∃ k : Nat, k ≤ s.n ∧ i = .int .i64 k ∧ Below w.heap.size w wr ∧ Hid (sharedFrom s sz at' s.n = sharedFrom s sz at' (s.n - k))) (fun i _ => s.n - (intOf i).toNat)
  case atStart => exact ⟨0, by omega, rfl, Below.refl _ _, hide rfl⟩
  case round =>
    obtain ⟨k, hk, rfl, hB, HE⟩ := hrel
    clear fp
    by_cases hlt : k < s.n
    · have R' := (unhide RR).below hB
      have ps := R'.ps k hlt
      have pa := R'.pa k hlt
      have pk := R'.pk k hlt
      obtain ⟨l1, l2, l3, l4⟩ := R'.lts
      have RW := hide R'
      clear R'
      by_cases c1 : s.size k = sz
      · by_cases c2 : s.atom k = at'
        · obtain ⟨x, hx⟩ : ∃ x, freeAt s k sz = x := ⟨_, rfl⟩
          have C : Hid (∀ w1, Rep w1 L s → Calls Tryd.prog 28 #[.pointer (some ⟨L.h, 0, none⟩), .int .i64 k, .int .i64 sz] w1 fun e w' => e = .returned (.int .i64 x) ∧ w' = w1) := by
            intro w1 r1
            rw [← hx]
            exact freePlace_any L s k sz w1 r1 hlt h1 h2
          rw [c1] at ps
          rw [c2] at pa
          by_cases c3 : x = -1
          · have HS : Hid (sharedFrom s sz at' (s.n - k) = sharedFrom s sz at' (s.n - (k + 1))) := by
              rw [sharedFrom_step s sz at' k hlt, if_neg (fun h => h.2.2 (hx.trans c3))]; exact rfl
            subst c3
            clear c1 c2 hx
            go_wp2_with (go_at_call 28; refine (unhide C _ ((unhide RW).below ((Below.refl _ _).alloc (Nat.le_refl _) _))).mono ?_; rintro e w' ⟨rfl, rfl⟩)
            go_roundw
            case rel => exact ⟨k + 1, by omega, by go_num, hB.alloc hB.size _, hide (HE.out.trans HS.out)⟩
            case measure => simp [intOf]; omega
          · have HS : Hid (sharedFrom s sz at' (s.n - k) = x) := by
              rw [sharedFrom_step s sz at' k hlt, if_pos ⟨c1, c2, fun h => c3 (hx.symm.trans h)⟩]; exact hx
            have c3' : (x != -1) = true := by simpa using c3
            clear c1 c2 c3 hx
            go_wp2_with (go_at_call 28; refine (unhide C _ ((unhide RW).below ((Below.refl _ _).alloc (Nat.le_refl _) _))).mono ?_; rintro e w' ⟨rfl, rfl⟩)
            go_ret
            exact ⟨ret_int (HE.out.trans HS.out).symm, hB.alloc hB.size _⟩
        · have HS : Hid (sharedFrom s sz at' (s.n - k) = sharedFrom s sz at' (s.n - (k + 1))) := by
            rw [sharedFrom_step s sz at' k hlt, if_neg (fun h => c2 h.2.1)]; exact rfl
          rw [c1] at ps
          have c2' : (s.atom k == at') = false := by simpa using c2
          clear c1 c2
          go_wp2
          go_roundw
          case rel => exact ⟨k + 1, by omega, by go_num, hB.alloc hB.size _, hide (HE.out.trans HS.out)⟩
          case measure => simp [intOf]; omega
      · have HS : Hid (sharedFrom s sz at' (s.n - k) = sharedFrom s sz at' (s.n - (k + 1))) := by
          rw [sharedFrom_step s sz at' k hlt, if_neg (fun h => c1 h.1)]; exact rfl
        have c1' : (s.size k != sz) = true := by simpa using c1
        go_wp2
        go_roundw
        case rel => exact ⟨k + 1, by omega, by go_num, hB.alloc hB.size _, hide (HE.out.trans HS.out)⟩
        case measure => simp [intOf]; omega
    · have HS : Hid (sharedFrom s sz at' (s.n - k) = -1) := by
        have : s.n - k = 0 := by omega
        rw [this]; exact rfl
      go_wp2
      go_ret
      exact ⟨ret_int (HE.out.trans HS.out).symm, hB⟩

/-- The lowest run of count pages without objects among the last m pages, run of them ahead already; or -1. -/
def emptyFrom (s : St) (count : Nat) : Nat → Nat → Int
  | 0, _ => -1
  | m + 1, run => if s.size (s.n - (m + 1)) = 0 then (if run + 1 = count then ((s.n - m : Nat) - (count : Int)) * 32 else emptyFrom s count m (run + 1)) else emptyFrom s count m 0

theorem emptyFrom_step (s : St) (count k run : Nat) (h : k < s.n) : emptyFrom s count (s.n - k) run = if s.size k = 0 then (if run + 1 = count then ((k : Int) + 1 - count) * 32 else emptyFrom s count (s.n - (k + 1)) (run + 1)) else emptyFrom s count (s.n - (k + 1)) 0 := by
  obtain ⟨m, hm⟩ : ∃ m, s.n - k = m + 1 := ⟨s.n - k - 1, by omega⟩
  have e : s.n - (m + 1) = k := by omega
  have e' : s.n - (k + 1) = m := by omega
  have e'' : ((s.n - m : Nat) : Int) = (k : Int) + 1 := by omega
  rw [hm, e', emptyFrom, e, e'']

set_option maxHeartbeats 400000 in
theorem emptyRoom_any (L : Lay) (s : St) (count : Nat) (w : World) (R : Rep w L s) (h1 : 1 ≤ count) (h2 : count ≤ 48) :
    Calls Tryd.prog 26 #[.pointer (some ⟨L.h, 0, none⟩), .int .i64 count] w fun e w' => e = .returned (.int .i64 (emptyFrom s count s.n 0)) ∧ Below w.heap.size w w' := by
  have n2 := R.n2
  have fp := R.fp
  have RR := hide R
  clear R
  go_enter Tryd.func26, Tryd.ntmps26
  go_wp2
  go_loopw [5, 13] (fun r i wr => ∃ k run : Nat, k ≤ s.n ∧ run ≤ k ∧ i = .int .i64 k ∧ r = .int .i64 run ∧ Below w.heap.size w wr ∧ Hid (emptyFrom s count s.n 0 = emptyFrom s count (s.n - k) run)) (fun _ i _ => s.n - (intOf i).toNat)
  case atStart => exact ⟨0, 0, by omega, by omega, rfl, rfl, Below.refl _ _, hide rfl⟩
  case round =>
    obtain ⟨k, run, hk, hrun, rfl, rfl, hB, HE⟩ := hrel
    clear fp
    by_cases hlt : k < s.n
    · have R' := (unhide RR).below hB
      have ps := R'.ps k hlt
      have pa := R'.pa k hlt
      have pk := R'.pk k hlt
      obtain ⟨l1, l2, l3, l4⟩ := R'.lts
      clear R'
      by_cases c1 : s.size k = 0
      · rw [c1] at ps
        by_cases c2 : run + 1 = count
        · have HS : Hid (emptyFrom s count (s.n - k) run = ((k : Int) + 1 - count) * 32) := by
            rw [emptyFrom_step s count k run hlt, if_pos c1, if_pos c2]; exact rfl
          have c2' : ((run : Int) + 1 == (count : Int)) = true := by simp; omega
          clear c1 c2
          go_wp2
          go_ret
          exact ⟨ret_int (by rw [HE.out, HS.out]), hB.alloc hB.size _⟩
        · have HS : Hid (emptyFrom s count (s.n - k) run = emptyFrom s count (s.n - (k + 1)) (run + 1)) := by
            rw [emptyFrom_step s count k run hlt, if_pos c1, if_neg c2]; exact rfl
          have c2' : ((run : Int) + 1 == (count : Int)) = false := by simp; omega
          clear c1 c2
          go_wp2
          go_roundw
          case rel => exact ⟨k + 1, run + 1, by omega, by omega, by go_num, by go_num, hB.alloc hB.size _, hide (HE.out.trans HS.out)⟩
          case measure => simp [intOf]; omega
      · have HS : Hid (emptyFrom s count (s.n - k) run = emptyFrom s count (s.n - (k + 1)) 0) := by
          rw [emptyFrom_step s count k run hlt, if_neg c1]; exact rfl
        have c1' : (s.size k == 0) = false := by simpa using c1
        clear c1
        go_wp2
        go_roundw
        case rel => exact ⟨k + 1, 0, by omega, by omega, by go_num, by go_num, hB.alloc hB.size _, hide (HE.out.trans HS.out)⟩
        case measure => simp [intOf]; omega
    · have HS : Hid (emptyFrom s count (s.n - k) run = -1) := by
        have : s.n - k = 0 := by omega
        rw [this]; exact rfl
      go_wp2
      go_ret
      exact ⟨ret_int (HE.out.trans HS.out).symm, hB⟩

/-- Where an object of that size and kind can be laid, or -1. -/
def roomAt (s : St) (sz : Nat) (at' : Bool) : Int :=
  if sz ≤ 16 then (if sharedFrom s sz at' s.n = -1 then emptyFrom s ((sz + 31) / 32) s.n 0 else sharedFrom s sz at' s.n) else emptyFrom s ((sz + 31) / 32) s.n 0

set_option maxHeartbeats 400000 in
theorem roomFor_any (L : Lay) (s : St) (sz : Nat) (at' : Bool) (w : World) (R : Rep w L s) (h1 : 1 ≤ sz) (h2 : sz ≤ 1536) :
    Calls Tryd.prog 17 #[.pointer (some ⟨L.h, 0, none⟩), .int .i64 sz, .bool at'] w fun e w' => e = .returned (.int .i64 (roomAt s sz at')) ∧ Below w.heap.size w w' := by
  have CE : Hid (∀ w1, Below w.heap.size w w1 → Calls Tryd.prog 26 #[.pointer (some ⟨L.h, 0, none⟩), .int .i64 (((sz : Int) + 32 - 1) / 32)] w1 fun e w' => e = .returned (.int .i64 (emptyFrom s ((sz + 31) / 32) s.n 0)) ∧ Below w.heap.size w w') := by
    intro w1 b1
    have := emptyRoom_any L s ((sz + 31) / 32) w1 (R.below b1) (by omega) (by omega)
    have e : (((sz + 31) / 32 : Nat) : Int) = ((sz : Int) + 32 - 1) / 32 := by omega
    rw [e] at this
    exact this.mono fun e w' ⟨he, hb⟩ => ⟨he, b1.trans (hb.mono b1.size)⟩
  by_cases c : sz ≤ 16
  · obtain ⟨x, hx⟩ : ∃ x, sharedFrom s sz at' s.n = x := ⟨_, rfl⟩
    have C := hide (sharedRoom_any L s sz at' w R h1 c)
    rw [hx] at C
    by_cases c2 : x = -1
    · have HS : Hid (roomAt s sz at' = emptyFrom s ((sz + 31) / 32) s.n 0) := by
        unfold roomAt; rw [if_pos c, if_pos (hx.trans c2)]; exact rfl
      subst c2
      clear hx R
      go_enter Tryd.func17, Tryd.ntmps17
      go_wp2_with (first | (go_at_call 25; refine (unhide C).mono ?_; rintro e w1 ⟨rfl, hb⟩) | (go_at_call 26; refine (unhide CE _ (by assumption)).mono ?_; rintro e w2 ⟨rfl, hb2⟩) | go_in)
      go_ret
      exact ⟨ret_int HS.out.symm, by assumption⟩
    · have HS : Hid (roomAt s sz at' = x) := by
        unfold roomAt; rw [if_pos c, hx, if_neg c2]; exact rfl
      have c2' : (x != -1) = true := by simpa using c2
      clear hx R c2
      go_enter Tryd.func17, Tryd.ntmps17
      go_wp2_with (first | (go_at_call 25; refine (unhide C).mono ?_; rintro e w1 ⟨rfl, hb⟩) | go_in)
      go_ret
      exact ⟨ret_int HS.out.symm, by assumption⟩
  · have HS : Hid (roomAt s sz at' = emptyFrom s ((sz + 31) / 32) s.n 0) := by
      unfold roomAt; rw [if_neg c]; exact rfl
    clear R
    have hB0 := Below.refl w.heap.size w
    go_enter Tryd.func17, Tryd.ntmps17
    go_wp2_with (first | (go_at_call 26; refine (unhide CE _ (by assumption)).mono ?_; rintro e w2 ⟨rfl, hb2⟩) | go_in)
    go_ret
    exact ⟨ret_int HS.out.symm, by assumption⟩
end Go.Proofs.YtehbcchebbodlabDoor
