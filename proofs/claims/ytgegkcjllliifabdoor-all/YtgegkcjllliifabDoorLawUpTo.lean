/-
  The walks of the law's UpTo, first, and of the five statements, for whatever heap keeps to 'HeapI'.
-/
import Derived.Test.YtgegkcjllliifabDoorLawStep
namespace Go.Proofs.YtgegkcjllliifabDoor
open Go.RowKit

/-- The script lies at g: step i has these four numbers. -/
structure Script (w : World) (g o n : Nat) (f : Nat → Nat → Int) : Prop where
  c : ∀ i j, i < n → j < 4 → w.cell? ⟨g, o + i * 4 + j, none⟩ = some (.int .i64 (f i j))
  b : ∀ i j, i < n → -9223372036854775808 ≤ f i j ∧ f i j ≤ 9223372036854775807
  lt : g < w.heap.size
theorem Script.below {w w' : World} {g o n : Nat} {f : Nat → Nat → Int} (h : Script w g o n f) (hB : Below w.heap.size w w') : Script w' g o n f := by
  have hb := hB.block g h.lt
  refine ⟨fun i j hi hj => ?_, h.b, Nat.lt_of_lt_of_le h.lt hB.size⟩
  rw [← h.c i j hi hj]
  unfold World.cell?
  rw [hb]

theorem LawIs.init (H : HeapI) (w : World) (hg : H.glob w) (hn : H.ng ≤ w.heap.size) : ∃ O, LawIs H w.heap.size w (w.alloc (.cells #[.slice none 0 0, .slice none 0 0, .int .i64 0, .slice none 0 0, .slice none 0 0] 49)) O ⟨w.heap.size, .slice none 0 0, .slice none 0 0, .slice none 0 0, .slice none 0 0, [], [], 0, []⟩ := by
  have b := (Below.refl w.heap.size w).alloc (Nat.le_refl _) (.cells #[.slice none 0 0, .slice none 0 0, .int .i64 0, .slice none 0 0, .slice none 0 0] 49)
  refine ⟨fun k => if k < w.heap.size then (9, 9) else (0, 0), b, by simp, fun k hk => if_pos hk, hn, H.globFrame hg fun k hk => b.block k (by omega), ⟨heap_alloc_new w _, if_neg (by simp)⟩, ⟨World.ownsRow_nil _ _ _ _, fun k hk => (by cases hk)⟩, ⟨World.ownsRow_nil _ _ _ _, fun k hk => (by cases hk)⟩, ⟨World.ownsRow_nil _ _ _ _, fun k hk => (by cases hk)⟩, ⟨World.ownsRow_nil _ _ _ _, fun k hk => (by cases hk)⟩, fun i hi => absurd hi (by simp), fun j hj => absurd hj (by simp)⟩
theorem Ok.init (s : LSt) (h1 : s.hs = []) (h2 : s.words = []) (h3 : s.ls = []) (h4 : s.value = 0) : Ok 0 s := by
  refine ⟨fun i p hp => ?_, fun i p hp => ?_, by rw [h2]; simp, by rw [h1]; simp, by rw [h3]; simp, by rw [h4]; omega, fun e he => ?_⟩
  · rw [h1] at hp; simp at hp
  · rw [h1] at hp; simp at hp
  · rw [h3] at he; cases he

set_option maxRecDepth 10000 in
set_option maxHeartbeats 3200000 in
theorem upTo_any (H : HeapI) (w : World) (hg : H.glob w) (hn : H.ng ≤ w.heap.size) (g o n cap : Nat) (f : Nat → Nat → Int) (hs : Script w g o n f) :
    Calls Tryd.prog 17 #[.slice (some ⟨g, o, none⟩) n cap] w fun e w' => e = .returned (.int .i64 (-1)) ∧ Below w.heap.size w w' := by
  obtain ⟨O0, h0⟩ := LawIs.init H w hg hn
  obtain ⟨W, eW⟩ : ∃ W, w.alloc (.cells #[.slice none 0 0, .slice none 0 0, .int .i64 0, .slice none 0 0, .slice none 0 0] 49) = W := ⟨_, rfl⟩
  rw [eW] at h0
  have EW := hide eW
  have H0 := hide h0
  have HS := hide hs
  clear hs h0 eW hg hn
  go_enter Tryd.func17, Tryd.ntmps17
  go_wp2
  rw [unhide EW]
  go_loopw [4] (fun x wr => ∃ (k : Nat) (s : LSt) (O : Nat → Nat × Nat), k ≤ n ∧ (k : Int) ≤ 1048576 ∧ x = .int .i64 k ∧ Hid (s.wB = w.heap.size) ∧ Hid (Ok k s) ∧ Hid (LawIs H w.heap.size w wr O s)) (fun x _ => 2000000 - (intOf x).toNat)
  case atStart => exact ⟨0, _, O0, by omega, by omega, rfl, hide rfl, hide (Ok.init _ rfl rfl rfl rfl), H0⟩
  case round =>
    clear H0 EW
    obtain ⟨k, s, O, hk, hk2, rfl, WB, OK, LI⟩ := hrel
    by_cases hlt : k < n
    · by_cases hm : (k : Int) < 1048576
      · have q1 : decide ((k : Int) < (n : Int)) = true := by simp; omega
        have q2 : decide ((k : Int) < 1048576) = true := by simp; omega
        have sc := (unhide HS).below (unhide LI).below
        have d0 := sc.c k 0 hlt (by omega)
        have d1 := sc.c k 1 hlt (by omega)
        have d2 := sc.c k 2 hlt (by omega)
        have d3 := sc.c k 3 hlt (by omega)
        have b1 := sc.b k 1 hlt
        have b2 := sc.b k 2 hlt
        rw [Nat.add_zero] at d0
        have CS := step_any (unhide LI) (unhide OK) (by omega) (f k 0) (f k 1) (f k 2) (f k 3) b1.1 b1.2 b2.1 b2.2
        rw [unhide WB] at CS
        have CCS := hide CS
        generalize f k 0 = f0 at *
        generalize f k 1 = f1 at *
        generalize f k 2 = f2 at *
        generalize f k 3 = f3 at *
        clear sc CS b1 b2
        go_wp2_with fail
        refine (unhide CCS).mono ?_
        rintro e w3 ⟨rfl, s', O', ew, h3, ok3⟩
        have CL := looks_any h3 (by have := ok3.ls; omega) (fun j hj => by have := ok3.ll _ (List.getElem_mem hj); omega)
        rw [ew, unhide WB] at CL
        have CCL := hide CL
        have H3 := hide h3
        have OK3 := hide ok3
        have WB3 : Hid (s'.wB = w.heap.size) := hide (ew.trans (unhide WB))
        clear ew h3 ok3 CL CCS d0 d1 d2 d3
        go_wp2_with fail
        refine (unhide CCL).mono ?_
        rintro e w4 ⟨rfl, b4⟩
        have H4 := hide ((unhide H3).quiet b4)
        clear b4 CCL
        go_wp2
        go_roundw
        case rel => exact ⟨k + 1, s', _, by omega, by omega, by go_num, WB3, OK3, H4⟩
        case measure => simp [intOf]; omega
      · have HB := hide (unhide LI).below
        have q1 : decide ((k : Int) < (n : Int)) = true := by simp; omega
        have q2 : decide ((k : Int) < 1048576) = false := by simp; omega
        clear hm hk2
        go_wp2
        go_ret
        exact ⟨rfl, unhide HB⟩
    · have HB := hide (unhide LI).below
      go_wp2
      go_ret
      exact ⟨rfl, unhide HB⟩

set_option maxRecDepth 10000 in
set_option maxHeartbeats 800000 in
theorem upTo_empty (w : World) (ao : Option Addr) (cap : Nat) :
    Calls Tryd.prog 17 #[.slice ao 0 cap] w fun e w' => e = .returned (.int .i64 (-1)) ∧ Below w.heap.size w w' := by
  obtain ⟨W, eW, hB⟩ : ∃ W, w.alloc (.cells #[.slice none 0 0, .slice none 0 0, .int .i64 0, .slice none 0 0, .slice none 0 0] 49) = W ∧ Below w.heap.size w W := ⟨_, rfl, (Below.refl _ _).alloc (Nat.le_refl _) _⟩
  have EW := hide eW
  have HB := hide hB
  clear eW hB
  go_enter Tryd.func17, Tryd.ntmps17
  go_wp2
  rw [unhide EW]
  go_loopw [4] (fun x wr => x = .int .i64 0 ∧ Hid (wr = W)) (fun _ _ => 1)
  case atStart => exact ⟨rfl, hide rfl⟩
  case round =>
    obtain ⟨rfl, e⟩ := hrel
    go_wp2
    go_ret
    exact ⟨rfl, by rw [unhide e]; exact unhide HB⟩

/-- What UpTo answers serves the five statements. -/
def Minus (w : World) (v : Value) : Prop := Calls Tryd.prog 17 #[v] w fun e w' => e = .returned (.int .i64 (-1)) ∧ Below w.heap.size w w'
end Go.Proofs.YtgegkcjllliifabDoor
