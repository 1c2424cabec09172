/-
  The walks of the reference heap's Rounded, Words, on, bare.
-/
import Derived.Test.YtgegkcjllliifabDoorRefFind
namespace Go.Proofs.YtgegkcjllliifabDoor
open Go.RowKit

/-- The size of an object for which n words are asked. -/
def rsz (k : Nat) : Int := [16, 12, 8, 6, 4, 3, 2, 1].getD k 0
def rszCells : Array Value := #[.int .i64 16, .int .i64 12, .int .i64 8, .int .i64 6, .int .i64 4, .int .i64 3, .int .i64 2, .int .i64 1]
theorem rsz_at (i : Nat) (h : i < 8) : rszCells[i]? = some (.int .i64 (rsz i)) :=
  match i, h with
  | 0, _ => rfl
  | 1, _ => rfl
  | 2, _ => rfl
  | 3, _ => rfl
  | 4, _ => rfl
  | 5, _ => rfl
  | 6, _ => rfl
  | 7, _ => rfl
  | k + 8, h => absurd h (by omega)
/-- What Rounded holds behind k rounds. -/
def roundTo (n : Int) : Nat → Int
  | 0 => (n + 31) / 32 * 32
  | k + 1 => if n ≤ rsz k then rsz k else roundTo n k
theorem roundTo_eq (n : Int) : roundTo n 8 = sizeOf' n := by
  simp only [roundTo, rsz, sizeOf', List.getD, List.getElem?_cons_succ, List.getElem?_cons_zero, Option.getD_some]
  rfl
theorem rsz_row (w : World) : ∃ W1, w.alloc (.cells rszCells 3) = W1 ∧ Below w.heap.size w W1 ∧ (∀ i, i < 8 → W1.cell? ⟨w.heap.size, i, none⟩ = some (.int .i64 (rsz i))) := by
  refine ⟨_, rfl, (Below.refl _ _).alloc (Nat.le_refl _) _, fun i hi => ?_⟩
  rw [cell_of_row _ _ i _ _ _ (heap_alloc_new w _)]
  exact rsz_at i hi

set_option maxHeartbeats 400000 in
theorem rounded_any (n : Int) (w : World) (h1 : 1 ≤ n) (h2 : n ≤ 1000000) :
    Calls Tryd.prog 85 #[.int .i64 n] w fun e w' => e = .returned (.int .i64 (sizeOf' n)) ∧ Below w.heap.size w w' := by
  obtain ⟨W1, e1, b1, c1⟩ := rsz_row w
  have E1 := hide e1
  clear e1
  go_enter Tryd.func85, Tryd.ntmps85
  go_wp2
  rw [show w.alloc (.cells #[.int .i64 16, .int .i64 12, .int .i64 8, .int .i64 6, .int .i64 4, .int .i64 3, .int .i64 2, .int .i64 1] 3) = W1 from unhide E1]
  have CC := hide c1
  clear c1
  go_loop [4, 5] (fun x i => ∃ k : Nat, k ≤ 8 ∧ i = .int .i64 k ∧ x = .int .i64 (roundTo n k)) (fun _ i => 8 - (intOf i).toNat)
  case atStart => exact ⟨0, by omega, rfl, by simp only [roundTo]; congr 1; omega⟩
  case round =>
    obtain ⟨k, hk, rfl, rfl⟩ := hrel
    by_cases hlt : k < 8
    · have ck := unhide CC k hlt
      by_cases c : n ≤ rsz k
      · go_wp2
        go_round
        case rel => exact ⟨k + 1, by omega, by go_num, by simp only [roundTo]; rw [if_pos c]⟩
        case measure => simp [intOf]; omega
      · go_wp2
        go_round
        case rel => exact ⟨k + 1, by omega, by go_num, by simp only [roundTo]; rw [if_neg c]⟩
        case measure => simp [intOf]; omega
    · obtain rfl : k = 8 := by omega
      go_wp2
      go_ret
      exact ⟨ret_int (roundTo_eq n), b1⟩

/-- The words of all objects. -/
def wordsOf : List Ob → Nat
  | [] => 0
  | o :: r => o.ws.length + wordsOf r
def Mo.words (m : Mo) : Nat := wordsOf m.objs
theorem wordsOf_take (l : List Ob) (k : Nat) (h : k < l.length) : wordsOf (l.take (k + 1)) = wordsOf (l.take k) + (l[k]).ws.length := by
  induction l generalizing k with
  | nil => simp at h
  | cons o r ih =>
    cases k with
    | zero => simp [wordsOf]
    | succ k =>
      have := ih k (by simpa using h)
      simp only [List.take_succ_cons, wordsOf, List.getElem_cons_succ]
      omega

set_option maxHeartbeats 400000 in
theorem words_any (R : RL) (m : Mo) (w : World) (h : RefIs w R m) (bd : m.bd) :
    Calls Tryd.prog 88 #[.pointer (some ⟨R.r, 0, none⟩)] w fun e w' => e = .returned (.int .i64 m.words) ∧ w' = w := by
  have HH := hide h
  have BD := hide bd
  have bo := bd.objs
  have fo := h.cells.2.2.2.1
  clear h bd
  go_enter Tryd.func88, Tryd.ntmps88
  go_wp2
  go_loop [3, 4] (fun x i => ∃ k : Nat, k ≤ m.objs.length ∧ i = .int .i64 k ∧ x = .int .i64 (wordsOf (m.objs.take k)) ∧ wordsOf (m.objs.take k) ≤ k * 1536) (fun _ i => m.objs.length - (intOf i).toNat)
  case atStart => exact ⟨0, by omega, rfl, rfl, by simp [wordsOf]⟩
  case round =>
    obtain ⟨k, hk, rfl, rfl, hle⟩ := hrel
    by_cases hlt : k < m.objs.length
    · obtain ⟨g, cap, hv, hg, hc1, hc2, o1, o2, o3⟩ := (unhide HH).ob k hlt
      rw [hv] at fo
      unfold maxLen at hc2
      obtain ⟨b1, b2, b3⟩ := (unhide BD).pos k hlt
      have hs := wordsOf_take m.objs k hlt
      generalize m.objs[k] = o at o1 o2 o3 b1 b2 b3 hs
      have HS := hide hs
      clear hs hv
      generalize wordsOf (m.objs.take k) = x at HS hle ⊢
      go_wp2
      go_round
      case rel => exact ⟨k + 1, by omega, by go_num, by rw [HS.out]; go_num, by rw [HS.out]; omega⟩
      case measure => simp [intOf]; omega
    · obtain ⟨ao, cap, hv, hc1, hc2⟩ := ownsRow_shape (unhide HH).ho
      rw [hv] at fo
      obtain rfl : k = m.objs.length := by omega
      clear hv
      go_wp2
      go_ret
      exact ⟨ret_int rfl, rfl⟩

/-- Does an object lie on page p? -/
def Ob.on (o : Ob) (p : Nat) : Bool := decide (o.pos < 1048576 + (p : Int) * 256 + 256) && decide (1048576 + (p : Int) * 256 < o.pos + 8 * (o.ws.length : Int))
def onFrom (p : Nat) : List Ob → Nat → Nat → Bool → Nat × Nat × Bool
  | [], n, z, a => (n, z, a)
  | o :: r, n, z, a => if o.on p then onFrom p r (n + 1) o.ws.length o.atomic else onFrom p r n z a
/-- The objects on page p: how many; the size and kind of the last. -/
def Mo.on (m : Mo) (p : Nat) : Nat × Nat × Bool := onFrom p m.objs 0 0 false
theorem onFrom_step (p : Nat) (l : List Ob) (k n z : Nat) (a : Bool) (h : k < l.length) : onFrom p (l.drop k) n z a = if (l[k]).on p then onFrom p (l.drop (k + 1)) (n + 1) (l[k]).ws.length (l[k]).atomic else onFrom p (l.drop (k + 1)) n z a := by
  rw [List.drop_eq_getElem_cons h, onFrom]
theorem onFrom_end (p : Nat) (l : List Ob) (k n z : Nat) (a : Bool) (h : l.length ≤ k) : onFrom p (l.drop k) n z a = (n, z, a) := by
  rw [List.drop_eq_nil_of_le h, onFrom]

theorem ret_on {a b c : Value} {a' b' c' : Value} (h1 : a = a') (h2 : b = b') (h3 : c = c') : Ending.returned (.tuple #[a, b, c]) = .returned (.tuple #[a', b', c']) := by rw [h1, h2, h3]

set_option maxHeartbeats 400000 in
theorem on_any (R : RL) (m : Mo) (p : Nat) (w : World) (h : RefIs w R m) (bd : m.bd) (hp : p ≤ 100) :
    Calls Tryd.prog 97 #[.pointer (some ⟨R.r, 0, none⟩), .int .i64 p] w fun e w' => e = .returned (.tuple #[.int .i64 (m.on p).1, .int .i64 (m.on p).2.1, .bool (m.on p).2.2]) ∧ Below w.heap.size w w' := by
  have HH := hide h
  have BD := hide bd
  have bo := bd.objs
  clear h bd
  go_enter Tryd.func97, Tryd.ntmps97
  go_wp2
  go_loopw [8, 9, 10, 11] (fun x y u i wr => ∃ (k n z : Nat) (a : Bool), k ≤ m.objs.length ∧ n ≤ k ∧ i = .int .i64 k ∧ x = .int .i64 n ∧ y = .int .i64 z ∧ u = .bool a ∧ Below w.heap.size w wr ∧ Hid (m.on p = onFrom p (m.objs.drop k) n z a)) (fun _ _ _ i _ => m.objs.length - (intOf i).toNat)
  case atStart => exact ⟨0, 0, 0, false, by omega, by omega, rfl, rfl, rfl, rfl, Below.refl _ _, hide rfl⟩
  case round =>
    obtain ⟨k, n, z, a, hk, hn, rfl, rfl, rfl, rfl, hB, HE⟩ := hrel
    have h' := (unhide HH).below hB
    by_cases hlt : k < m.objs.length
    · obtain ⟨g, cap, hv, hg, hc1, hc2, o1, o2, o3⟩ := h'.ob k hlt
      have fo := h'.cells.2.2.2.1
      rw [hv] at fo
      unfold maxLen at hc2
      have HS := hide (onFrom_step p m.objs k n z a hlt)
      obtain ⟨b1, b2, b3⟩ := (unhide BD).pos k hlt
      generalize m.objs[k] = o at o1 o2 o3 HS b1 b2 b3
      obtain ⟨P, A, ws⟩ := o
      dsimp only at o1 o2 o3 b1 b2 b3 HS
      clear h' hv
      by_cases c1 : P < 1048576 + (p : Int) * 256 + 256
      · by_cases c2 : 1048576 + (p : Int) * 256 < P + 8 * (ws.length : Int)
        · have HT : Hid (m.on p = onFrom p (m.objs.drop (k + 1)) (n + 1) ws.length A) := by
            rw [HE.out, HS.out, if_pos (by simp [Ob.on, c1, c2])]; exact rfl
          go_wp2
          go_roundw
          case rel => exact ⟨k + 1, n + 1, ws.length, A, by omega, by omega, by go_num, by go_num, rfl, rfl, hB.alloc hB.size _, HT⟩
          case measure => simp [intOf]; omega
        · have HT : Hid (m.on p = onFrom p (m.objs.drop (k + 1)) n z a) := by
            rw [HE.out, HS.out, if_neg (by simp [Ob.on, c1]; omega)]; exact rfl
          go_wp2
          go_roundw
          case rel => exact ⟨k + 1, n, z, a, by omega, by omega, by go_num, rfl, rfl, rfl, hB.alloc hB.size _, HT⟩
          case measure => simp [intOf]; omega
      · have HT : Hid (m.on p = onFrom p (m.objs.drop (k + 1)) n z a) := by
          rw [HE.out, HS.out, if_neg (by simp [Ob.on, c1])]; exact rfl
        go_wp2
        go_roundw
        case rel => exact ⟨k + 1, n, z, a, by omega, by omega, by go_num, rfl, rfl, rfl, hB.alloc hB.size _, HT⟩
        case measure => simp [intOf]; omega
    · obtain ⟨ao, cap, hv, hc1, hc2⟩ := ownsRow_shape h'.ho
      have fo := h'.cells.2.2.2.1
      rw [hv] at fo
      clear h' hv
      have HT : Hid (m.on p = (n, z, a)) := by rw [HE.out, onFrom_end p m.objs k n z a (by omega)]; exact rfl
      go_wp2
      go_ret3
      exact ⟨ret_on (by rw [HT.out]; rfl) (by rw [HT.out]; rfl) (by rw [HT.out]; rfl), hB⟩

/-- May a new object take page p for itself? -/
def Mo.bare (m : Mo) (p : Nat) (at' : Bool) : Bool := ((m.on p).1 == 0) && (!(m.black.getD p false) || at')

set_option maxHeartbeats 400000 in
theorem bare_any (R : RL) (m : Mo) (p : Nat) (at' : Bool) (w : World) (h : RefIs w R m) (bd : m.bd) (hp : p < m.pages) :
    Calls Tryd.prog 96 #[.pointer (some ⟨R.r, 0, none⟩), .int .i64 p, .bool at'] w fun e w' => e = .returned (.bool (m.bare p at')) ∧ Below w.heap.size w w' := by
  have b2 := bd.p2
  have C := hide (on_any R m p w h bd (by omega))
  have HH := hide h
  clear h bd
  have HB : Hid (m.bare p at' = ((m.on p).1 == 0 && (!(m.black.getD p false) || at'))) := hide rfl
  generalize m.on p = on at C HB
  obtain ⟨n, z, a⟩ := on
  dsimp only at C HB
  obtain ⟨bl, hbl⟩ : ∃ bl, m.black.getD p false = bl := ⟨_, rfl⟩
  rw [hbl] at HB
  by_cases c : n = 0
  · subst c
    cases bl
    all_goals
      go_enter Tryd.func96, Tryd.ntmps96
      go_wp2_with (go_at_call 97; refine (unhide C).mono ?_; rintro e w' ⟨rfl, hb⟩; obtain ⟨g, cap, hv, hg, hc1, hc2, o1⟩ := ((unhide HH).below hb).bl p hp; have fb := ((unhide HH).below hb).cells.2.2.2.2.2.1; rw [hv] at fb; rw [hbl] at o1; unfold maxLen at hc2; clear hv)
      go_ret
      exact ⟨ret_bool (by rw [HB.out]; simp), by assumption⟩
  · have c' : ((n : Int) == 0) = false := by simp; omega
    go_enter Tryd.func96, Tryd.ntmps96
    go_wp2_with (go_at_call 97; refine (unhide C).mono ?_; rintro e w' ⟨rfl, hb⟩)
    go_ret
    exact ⟨ret_bool (by rw [HB.out]; simp [c]), by assumption⟩
end Go.Proofs.YtgegkcjllliifabDoor
