/-
  The walk of the reference heap's Ahead.
-/
import Derived.Test.YtgegkcjllliifabDoorRefCollect
import Derived.Test.YtgegkcjllliifabDoorRefRoom
namespace Go.Proofs.YtgegkcjllliifabDoor
open Go.RowKit

theorem RefTo.below {w w1 w2 : World} {R : RL} {m : Mo} (h : RefTo w R m w1) (hB : Below w1.heap.size w1 w2) : RefTo w R m w2 := by
  obtain ⟨R', e, h1, h2, h3⟩ := h
  exact ⟨R', e, h1.below hB, h2, h3.below hB⟩
theorem RefTo.trans {w w1 w2 : World} {R R1 : RL} {m2 : Mo} (e : R1.r = R.r) (hin : ∀ k, k ∈ R1.blocks → k ∈ R.blocks ∨ w.heap.size ≤ k) (t : Touch R.blocks w w1) (h : RefTo w1 R1 m2 w2) : RefTo w R m2 w2 := by
  obtain ⟨R', e', h1, h2, h3⟩ := h
  have s := t.size
  refine ⟨R', e'.trans e, h1, fun k hk => ?_, t.trans h3 hin⟩
  rcases h2 k hk with x | x
  · exact hin k x
  · exact .inr (by omega)

theorem bd_collect {m : Mo} (h : m.bd) (on : List Bool) (hr : m.runs + 1 ≤ 4611686018427387904) : (m.collect on).bd := by
  have hs := keepG_sublist m.objs on
  have hl : (keepG m.objs on).length ≤ m.objs.length := hs.length_le
  have ho := h.objs
  refine ⟨h.p1, h.p2, Nat.le_trans hl h.objs, fun i hi => ?_, h.roots, Nat.zero_le _, hr, ?_, h.stack, h.trig⟩
  · have hmem : (m.collect on).objs[i] ∈ m.objs := hs.subset (List.getElem_mem hi)
    generalize (m.collect on).objs[i] = o at hmem
    obtain ⟨j, hj, rfl⟩ := List.getElem_of_mem hmem
    exact h.pos j hj
  · show (keepG m.objs on).length ≤ _
    omega

/-- What goes ahead of a new object: a collection, maybe; and the error. -/
def AheadTo (m : Mo) (words : Nat) (at' : Bool) (m1 : Mo) (err : Int) : Prop :=
  if 0 < m.trig ∧ m.trig < m.since + words then ∃ on, IsReach m on ∧ m1 = m.collect on ∧ err = if m1.room words at' then 0 else 3
  else if m.room words at' then m1 = m ∧ err = 0 else ∃ on, IsReach m on ∧ m1 = m.collect on ∧ err = if m1.room words at' then 0 else 3

set_option maxHeartbeats 400000 in
theorem ahead_size (R : RL) (m : Mo) (n : Int) (at' : Bool) (w : World) (h : RefIs w R m) (bd : m.bd) (hn : n < 1 ∨ (m.pages : Int) * 32 < n) :
    Calls Tryd.prog 65 #[.pointer (some ⟨R.r, 0, none⟩), .int .i64 n, .bool at'] w fun e w' => e = .returned (.int .i64 2) ∧ w' = w := by
  have fp := h.cells.1
  have b2 := bd.p2
  clear h bd
  by_cases c : n < 1
  · go_enter Tryd.func65, Tryd.ntmps65
    go_wp2
    go_ret
    exact ⟨rfl, rfl⟩
  · have c2 : (m.pages : Int) * 32 < n := by omega
    clear hn
    go_enter Tryd.func65, Tryd.ntmps65
    go_wp2
    go_ret
    exact ⟨rfl, rfl⟩

/-- A collection and then the question of room. -/
theorem collect_room (R : RL) (m : Mo) (w w1 : World) (h : RefIs w R m) (bd : m.bd) (hr : m.runs + 1 ≤ 4611686018427387904) (hB : Below w.heap.size w w1) :
    Calls Tryd.prog 80 #[.pointer (some ⟨R.r, 0, none⟩)] w1 fun e w' => e = .returned (.tuple #[]) ∧ ∃ on, IsReach m on ∧ (m.collect on).bd ∧ RefTo w R (m.collect on) w' := by
  refine (collect_any R m w1 (h.below hB) bd).mono ?_
  rintro e w' ⟨rfl, on, h1, h2⟩
  exact ⟨rfl, on, h1, bd_collect bd on hr, RefTo.trans (R1 := R) rfl (fun _ hk => .inl hk) (Touch.of_below hB) h2⟩

set_option maxHeartbeats 1600000 in
theorem ahead_any (R : RL) (m : Mo) (n words : Nat) (at' : Bool) (w : World) (h : RefIs w R m) (bd : m.bd) (hr : m.runs + 1 ≤ 4611686018427387904) (hn : 1 ≤ n) (hn2 : n ≤ m.pages * 32) (hw : Hid (sizeOf' n = words)) (hw1 : 1 ≤ words) (hw2 : words ≤ 1536) :
    Calls Tryd.prog 65 #[.pointer (some ⟨R.r, 0, none⟩), .int .i64 n, .bool at'] w fun e w' => ∃ m1 err, AheadTo m words at' m1 err ∧ m1.bd ∧ e = .returned (.int .i64 err) ∧ RefTo w R m1 w' := by
  have fp := h.cells.1
  have b2 := bd.p2
  have bs := bd.since
  have bt := bd.trig
  have HH := hide h
  have BD := hide bd
  have C1 : Hid (Calls Tryd.prog 85 #[.int .i64 n] w fun e w' => e = .returned (.int .i64 words) ∧ Below w.heap.size w w') := by
    have := rounded_any n w (by omega) (by omega)
    rw [hw.out] at this
    exact this
  have C2 : Hid (∀ w1, Below w.heap.size w w1 → Calls Tryd.prog 86 #[.pointer (some ⟨R.r, 0, none⟩), .int .i64 words, .bool at'] w1 fun e w' => e = .returned (.bool (m.room words at')) ∧ Below w.heap.size w w') :=
    fun w1 hb => chain_below hb (room_any R m words at' w1 (h.below hb) bd hw1 hw2)
  have C3 : Hid (∀ w1, Below w.heap.size w w1 → Calls Tryd.prog 80 #[.pointer (some ⟨R.r, 0, none⟩)] w1 fun e w' => e = .returned (.tuple #[]) ∧ ∃ on, IsReach m on ∧ (m.collect on).bd ∧ RefTo w R (m.collect on) w') :=
    fun w1 hb => collect_room R m w w1 h bd hr hb
  have C4 : Hid (∀ w1 m1, m1.bd → RefTo w R m1 w1 → Calls Tryd.prog 86 #[.pointer (some ⟨R.r, 0, none⟩), .int .i64 words, .bool at'] w1 fun e w' => e = .returned (.bool (m1.room words at')) ∧ RefTo w R m1 w') := by
    intro w1 m1 hb hrt
    obtain ⟨R', e, h1, h2, h3⟩ := hrt
    have := room_any R' m1 words at' w1 h1 hb hw1 hw2
    rw [e] at this
    exact this.mono fun _ _ ⟨x, y⟩ => ⟨x, RefTo.below ⟨R', e, h1, h2, h3⟩ y⟩
  clear h bd hw
  by_cases ct : 0 < m.trig
  · by_cases cf : m.trig < m.since + words
    · have HA : Hid (∀ on, IsReach m on → AheadTo m words at' (m.collect on) (if (m.collect on).room words at' then 0 else 3)) := by
        intro on hre
        unfold AheadTo
        rw [if_pos ⟨ct, cf⟩]
        exact ⟨on, hre, rfl, rfl⟩
      go_enter Tryd.func65, Tryd.ntmps65
      go_wp2_with (go_at_call 85; refine (unhide C1).mono ?_; rintro e w1 ⟨rfl, hb1⟩; have ft := ((unhide HH).below hb1).cells.2.2.1; have fs := ((unhide HH).below hb1).cells.2.2.2.2.2.2.1; have HBQ : Hid (∀ q, Below w.heap.size w (w1.drewN q)) := fun q => ⟨hb1.os, hb1.tape, hb1.output, hb1.size, hb1.block⟩)
      go_quiet (fail)
      clear ft fs
      go_wp2_with fail
      refine (unhide C3 _ (unhide HBQ _)).mono ?_
      rintro e w2 ⟨rfl, on, hre, hbd, hrt⟩
      have HRE := hide hre
      have HBD := hide hbd
      have C5 := hide (unhide C4 w2 _ hbd hrt)
      clear hre hbd hrt
      obtain ⟨rm, hrm⟩ : ∃ rm, (m.collect on).room words at' = rm := ⟨_, rfl⟩
      rw [hrm] at C5
      have HRM := hide hrm
      clear hrm
      cases rm
      · go_wp2_with (go_at_call 86; refine (unhide C5).mono ?_; rintro e w3 ⟨rfl, hr3⟩; have HR3 := hide hr3; clear hr3)
        go_ret
        exact ⟨_, _, unhide HA on (unhide HRE), unhide HBD, ret_int (by rw [unhide HRM]; rfl), unhide HR3⟩
      · go_wp2_with (go_at_call 86; refine (unhide C5).mono ?_; rintro e w3 ⟨rfl, hr3⟩; have HR3 := hide hr3; clear hr3)
        go_ret
        exact ⟨_, _, unhide HA on (unhide HRE), unhide HBD, ret_int (by rw [unhide HRM]; rfl), unhide HR3⟩
    · have cf' : (m.since : Int) + words ≤ m.trig := by omega
      have cd : decide ((m.trig : Int) < (m.since : Int) + (words : Int)) = false := decide_eq_false (by omega)
      obtain ⟨rm0, hrm0⟩ : ∃ rm0, m.room words at' = rm0 := ⟨_, rfl⟩
      have HN : Hid (AheadTo m words at' = fun m1 err => if m.room words at' then m1 = m ∧ err = 0 else ∃ on, IsReach m on ∧ m1 = m.collect on ∧ err = if m1.room words at' then 0 else 3) := by
        show _ = _
        funext m1 err
        unfold AheadTo
        rw [if_neg (by omega)]
      rw [hrm0] at C2
      cases rm0
      · have HA : Hid (∀ on, IsReach m on → AheadTo m words at' (m.collect on) (if (m.collect on).room words at' then 0 else 3)) := by
          intro on hre
          rw [unhide HN]
          show if m.room words at' = true then _ else _
          rw [hrm0, if_neg (by simp)]
          exact ⟨on, hre, rfl, rfl⟩
        clear hrm0 HN
        go_enter Tryd.func65, Tryd.ntmps65
        go_wp2_with (go_at_call 85; refine (unhide C1).mono ?_; rintro e w1 ⟨rfl, hb1⟩; have ft := ((unhide HH).below hb1).cells.2.2.1; have fs := ((unhide HH).below hb1).cells.2.2.2.2.2.2.1; have HBQ : Hid (∀ q, Below w.heap.size w (w1.drewN q)) := fun q => ⟨hb1.os, hb1.tape, hb1.output, hb1.size, hb1.block⟩)
        go_quiet (fail)
        clear ft fs
        go_wp2_with (go_at_call 86; refine (unhide C2 _ (unhide HBQ _)).mono ?_; rintro e w1b ⟨rfl, hb1b⟩; refine stop ?_)
        refine hide ?_
        replace HBQ : Hid (∀ q : Nat, Below w.heap.size w w1b) := fun _ => hb1b
        go_wp2_with fail
        refine (unhide C3 _ (unhide HBQ 0)).mono ?_
        rintro e w2 ⟨rfl, on, hre, hbd, hrt⟩
        have HRE := hide hre
        have HBD := hide hbd
        have C5 := hide (unhide C4 w2 _ hbd hrt)
        clear hre hbd hrt
        obtain ⟨rm, hrm⟩ : ∃ rm, (m.collect on).room words at' = rm := ⟨_, rfl⟩
        rw [hrm] at C5
        have HRM := hide hrm
        clear hrm
        cases rm
        · go_wp2_with (go_at_call 86; refine (unhide C5).mono ?_; rintro e w3 ⟨rfl, hr3⟩; have HR3 := hide hr3; clear hr3)
          go_ret
          exact ⟨_, _, unhide HA on (unhide HRE), unhide HBD, ret_int (by rw [unhide HRM]; rfl), unhide HR3⟩
        · go_wp2_with (go_at_call 86; refine (unhide C5).mono ?_; rintro e w3 ⟨rfl, hr3⟩; have HR3 := hide hr3; clear hr3)
          go_ret
          exact ⟨_, _, unhide HA on (unhide HRE), unhide HBD, ret_int (by rw [unhide HRM]; rfl), unhide HR3⟩
      · have HA : Hid (AheadTo m words at' m 0) := by
          rw [unhide HN]
          show if m.room words at' = true then _ else _
          rw [hrm0, if_pos rfl]
          exact ⟨rfl, rfl⟩
        clear hrm0 HN
        go_enter Tryd.func65, Tryd.ntmps65
        go_wp2_with (go_at_call 85; refine (unhide C1).mono ?_; rintro e w1 ⟨rfl, hb1⟩; have ft := ((unhide HH).below hb1).cells.2.2.1; have fs := ((unhide HH).below hb1).cells.2.2.2.2.2.2.1; have HBQ : Hid (∀ q, Below w.heap.size w (w1.drewN q)) := fun q => ⟨hb1.os, hb1.tape, hb1.output, hb1.size, hb1.block⟩)
        go_quiet (fail)
        clear ft fs
        go_wp2_with (go_at_call 86; refine (unhide C2 _ (unhide HBQ _)).mono ?_; rintro e w2 ⟨rfl, hb2⟩)
        go_ret
        exact ⟨m, 0, unhide HA, unhide BD, rfl, RefTo.same (unhide HH) (by assumption)⟩
  · have ct' : m.trig = 0 := by omega
    have cd : decide ((0 : Int) < (m.trig : Int)) = false := decide_eq_false (by omega)
    obtain ⟨rm0, hrm0⟩ : ∃ rm0, m.room words at' = rm0 := ⟨_, rfl⟩
    have HN : Hid (AheadTo m words at' = fun m1 err => if m.room words at' then m1 = m ∧ err = 0 else ∃ on, IsReach m on ∧ m1 = m.collect on ∧ err = if m1.room words at' then 0 else 3) := by
      show _ = _
      funext m1 err
      unfold AheadTo
      rw [if_neg (by omega)]
    rw [hrm0] at C2
    cases rm0
    · have HA : Hid (∀ on, IsReach m on → AheadTo m words at' (m.collect on) (if (m.collect on).room words at' then 0 else 3)) := by
        intro on hre
        rw [unhide HN]
        show if m.room words at' = true then _ else _
        rw [hrm0, if_neg (by simp)]
        exact ⟨on, hre, rfl, rfl⟩
      clear hrm0 HN
      go_enter Tryd.func65, Tryd.ntmps65
      go_wp2_with (go_at_call 85; refine (unhide C1).mono ?_; rintro e w1 ⟨rfl, hb1⟩; have ft := ((unhide HH).below hb1).cells.2.2.1; have fs := ((unhide HH).below hb1).cells.2.2.2.2.2.2.1; have HBQ : Hid (∀ q, Below w.heap.size w (w1.drewN q)) := fun q => ⟨hb1.os, hb1.tape, hb1.output, hb1.size, hb1.block⟩)
      go_quiet (fail)
      clear ft fs
      go_wp2_with (go_at_call 86; refine (unhide C2 _ (unhide HBQ _)).mono ?_; rintro e w1b ⟨rfl, hb1b⟩; refine stop ?_)
      refine hide ?_
      replace HBQ : Hid (∀ q : Nat, Below w.heap.size w w1b) := fun _ => hb1b
      go_wp2_with fail
      refine (unhide C3 _ (unhide HBQ 0)).mono ?_
      rintro e w2 ⟨rfl, on, hre, hbd, hrt⟩
      have HRE := hide hre
      have HBD := hide hbd
      have C5 := hide (unhide C4 w2 _ hbd hrt)
      clear hre hbd hrt
      obtain ⟨rm, hrm⟩ : ∃ rm, (m.collect on).room words at' = rm := ⟨_, rfl⟩
      rw [hrm] at C5
      have HRM := hide hrm
      clear hrm
      cases rm
      · go_wp2_with (go_at_call 86; refine (unhide C5).mono ?_; rintro e w3 ⟨rfl, hr3⟩; have HR3 := hide hr3; clear hr3)
        go_ret
        exact ⟨_, _, unhide HA on (unhide HRE), unhide HBD, ret_int (by rw [unhide HRM]; rfl), unhide HR3⟩
      · go_wp2_with (go_at_call 86; refine (unhide C5).mono ?_; rintro e w3 ⟨rfl, hr3⟩; have HR3 := hide hr3; clear hr3)
        go_ret
        exact ⟨_, _, unhide HA on (unhide HRE), unhide HBD, ret_int (by rw [unhide HRM]; rfl), unhide HR3⟩
    · have HA : Hid (AheadTo m words at' m 0) := by
        rw [unhide HN]
        show if m.room words at' = true then _ else _
        rw [hrm0, if_pos rfl]
        exact ⟨rfl, rfl⟩
      clear hrm0 HN
      go_enter Tryd.func65, Tryd.ntmps65
      go_wp2_with (go_at_call 85; refine (unhide C1).mono ?_; rintro e w1 ⟨rfl, hb1⟩; have ft := ((unhide HH).below hb1).cells.2.2.1; have fs := ((unhide HH).below hb1).cells.2.2.2.2.2.2.1; have HBQ : Hid (∀ q, Below w.heap.size w (w1.drewN q)) := fun q => ⟨hb1.os, hb1.tape, hb1.output, hb1.size, hb1.block⟩)
      go_quiet (fail)
      clear ft fs
      go_wp2_with (go_at_call 86; refine (unhide C2 _ (unhide HBQ _)).mono ?_; rintro e w2 ⟨rfl, hb2⟩)
      go_ret
      exact ⟨m, 0, unhide HA, unhide BD, rfl, RefTo.same (unhide HH) (by assumption)⟩
end Go.Proofs.YtgegkcjllliifabDoor
