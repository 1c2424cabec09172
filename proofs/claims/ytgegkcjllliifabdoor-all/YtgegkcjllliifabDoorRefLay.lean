/-
  The walk of the reference heap's Lay.
-/
import Derived.Test.YtgegkcjllliifabDoorRefFree
namespace Go.Proofs.YtgegkcjllliifabDoor
open Go.RowKit

set_option maxRecDepth 10000 in
set_option maxHeartbeats 400000 in
theorem free_base (R : RL) (m : Mo) (a : Int) (i : Nat) (w : World) (h : RefIs w R m) (bd : m.bd) (hf : m.find a = i) (hi : i < m.objs.length) (he : (m.objs[i]).pos ≠ a) :
    Calls Tryd.prog 70 #[.pointer (some ⟨R.r, 0, none⟩), .int .i64 a] w fun e w' => e = .returned (.int .i64 6) ∧ Below w.heap.size w w' := by
  have C := hide (find_any R m a w h bd)
  rw [hf] at C
  have bo := bd.objs
  have HH := hide h
  generalize hob : (m.objs[i]).pos = P at he
  have HO := hide hob
  have he' : (P == a) = false := by simpa using he
  clear h bd hf hob he
  go_enter Tryd.func70, Tryd.ntmps70
  go_wp2_with (go_at_call 69; refine (unhide C).mono ?_; rintro e w1 ⟨rfl, hb⟩; have fo := ((unhide HH).below hb).cells.2.2.2.1; obtain ⟨g, cap, hv, _, hc1, hc2, o1, _, _⟩ := ((unhide HH).below hb).ob i hi; rw [hv] at fo; rw [unhide HO] at o1; unfold maxLen at hc2; clear hv)
  go_ret
  exact ⟨rfl, by assumption⟩

theorem RefIs.others {w : World} {R : RL} {m : Mo} (h : RefIs w R m) (j : Nat) (v : Value) : (∀ k, k ≠ R.r → (w.setCell ⟨R.r, j, none⟩ v).heap[k]? = w.heap[k]?) ∧
    (w.setCell ⟨R.r, j, none⟩ v).ownsRow 0 89 3 R.vo m.objs.length (obCells m.objs R.wb) ∧ (w.setCell ⟨R.r, j, none⟩ v).ownsRow 0 3 1 R.vr m.roots.length (ints m.roots) ∧ (w.setCell ⟨R.r, j, none⟩ v).ownsRow 0 4 1 R.vb m.pages (bools m.black) ∧
    (∀ i (hi : i < m.objs.length), (w.setCell ⟨R.r, j, none⟩ v).heap[R.wAt i]? = some (.cells (ints (m.objs[i]).ws).toArray 3 (0, 0))) := by
  obtain ⟨p1, p2, p3, p4, p5⟩ := h.parts
  have hne : ∀ k, k ≠ R.r → (w.setCell ⟨R.r, j, none⟩ v).heap[k]? = w.heap[k]? := fun k hk => heap_setCell_other w ⟨R.r, j, none⟩ k v hk
  refine ⟨hne, ownsRow_agree h.ho fun k hk => hne k (p1 k hk).1, ownsRow_agree h.hrt fun k hk => hne k (p2 k hk).1, ownsRow_agree h.hb fun k hk => hne k (p3 k hk).1, fun i hi => ?_⟩
  have hm : R.wAt i ∈ R.wb := getD_mem R.wb i (by rw [h.len]; exact hi)
  rw [hne _ (p4 _ hm).1]
  exact h.hw i hi

theorem RefIs.setSince {w : World} {R : RL} {m : Mo} (h : RefIs w R m) (s : Nat) : RefIs (w.setCell ⟨R.r, 6, none⟩ (.int .i64 s)) R { m with since := s } := by
  obtain ⟨_, a2, a3, a4, a5⟩ := h.others 6 (.int .i64 s)
  exact ⟨h.field rfl 6 (.int .i64 s), a2, a3, a4, a5, h.len, h.nd⟩
theorem RefIs.setRuns {w : World} {R : RL} {m : Mo} (h : RefIs w R m) (s : Nat) : RefIs (w.setCell ⟨R.r, 7, none⟩ (.int .i64 s)) R { m with runs := s } := by
  obtain ⟨_, a2, a3, a4, a5⟩ := h.others 7 (.int .i64 s)
  exact ⟨h.field rfl 7 (.int .i64 s), a2, a3, a4, a5, h.len, h.nd⟩
theorem RefIs.setKept {w : World} {R : RL} {m : Mo} (h : RefIs w R m) (s : Nat) : RefIs (w.setCell ⟨R.r, 8, none⟩ (.int .i64 s)) R { m with kept := s } := by
  obtain ⟨_, a2, a3, a4, a5⟩ := h.others 8 (.int .i64 s)
  exact ⟨h.field rfl 8 (.int .i64 s), a2, a3, a4, a5, h.len, h.nd⟩
/-- A plain field behind a call that wrote. -/
theorem RefTo.field {w w' : World} {R : RL} {m m' : Mo} (h : RefTo w R m w') (j : Nat) (v : Value) (hs : ∀ R', RefIs w' R' m → RefIs (w'.setCell ⟨R'.r, j, none⟩ v) R' m') : RefTo w R m' (w'.setCell ⟨R.r, j, none⟩ v) := by
  obtain ⟨R', e, h1, h2, h3⟩ := h
  have := hs R' h1
  rw [e] at this
  exact ⟨R', e, this, h2, h3.trans (B' := [R.r]) ⟨rfl, rfl, rfl, by simp, fun k _ hk => heap_setCell_other w' ⟨R.r, j, none⟩ k v (by simpa using hk)⟩ fun i hi => .inl (by simp at hi; simp [RL.blocks, hi])⟩
/-- What the heap's struct holds behind a call that wrote. -/
theorem RefTo.cells {w w' : World} {R : RL} {m : Mo} (h : RefTo w R m w') : ∃ R' : RL, w'.cell? ⟨R.r, 0, none⟩ = some (.int .i64 m.pages) ∧ w'.cell? ⟨R.r, 1, none⟩ = some (.int .i64 m.stack) ∧ w'.cell? ⟨R.r, 2, none⟩ = some (.int .i64 m.trig) ∧ w'.cell? ⟨R.r, 3, none⟩ = some R'.vo ∧
    w'.cell? ⟨R.r, 4, none⟩ = some R'.vr ∧ w'.cell? ⟨R.r, 5, none⟩ = some R'.vb ∧ w'.cell? ⟨R.r, 6, none⟩ = some (.int .i64 m.since) ∧ w'.cell? ⟨R.r, 7, none⟩ = some (.int .i64 m.runs) ∧ w'.cell? ⟨R.r, 8, none⟩ = some (.int .i64 m.kept) ∧ (∀ k, w'.frozen? ⟨R.r, k, none⟩ = false) := by
  obtain ⟨R', e, h1, _⟩ := h
  obtain ⟨c1, c2, c3, c4, c5, c6, c7, c8, c9⟩ := h1.cells
  have f := h1.frozen
  rw [e] at c1 c2 c3 c4 c5 c6 c7 c8 c9 f
  exact ⟨R', c1, c2, c3, c4, c5, c6, c7, c8, c9, f⟩

/-- How many objects at the list's head lie below a. -/
def lead (a : Int) : List Ob → Nat
  | [] => 0
  | o :: r => if o.pos < a then lead a r + 1 else 0
theorem lead_le (a : Int) (l : List Ob) : lead a l ≤ l.length := by
  induction l with
  | nil => exact Nat.le_refl _
  | cons o r ih => simp only [lead, List.length_cons]; split <;> omega
theorem lead_step (a : Int) (l : List Ob) (k : Nat) (hk : k ≤ lead a l) : (k < lead a l ↔ ∃ h : k < l.length, (l[k]).pos < a) := by
  induction l generalizing k with
  | nil => simp [lead]
  | cons o r ih =>
    by_cases c : o.pos < a
    · simp only [lead, if_pos c] at hk ⊢
      cases k with
      | zero => simp [c]
      | succ k =>
        have := ih k (by omega)
        simp only [List.getElem_cons_succ, List.length_cons, Nat.add_lt_add_iff_right]
        exact this
    · simp only [lead, if_neg c] at hk ⊢
      obtain rfl : k = 0 := by omega
      simp [c]

/-- A slice of our own: none yet, or in new memory. -/
def Own (N : Nat) (v : Value) : Prop := v.ownBlock = none ∨ ∃ g, v.ownBlock = some g ∧ N ≤ g
theorem Own.nil (N : Nat) : Own N (.slice none 0 0) := .inl rfl
theorem Own.next {N : Nat} {w : World} {v v' : Value} (h : Own N v) (hN : N ≤ w.heap.size) (hl : v'.ownBlock = v.ownBlock ∨ ∃ g, v'.ownBlock = some g ∧ w.heap.size ≤ g) : Own N v' := by
  rcases hl with e | ⟨g, e1, e2⟩
  · unfold Own; rw [e]; exact h
  · exact .inr ⟨g, e1, by omega⟩
theorem Own.grown {N : Nat} {w0 w w' : World} {v : Value} (h : Own N v) (hB : Below N w0 w) (hN : N ≤ w.heap.size) (hg : w.grownBy w' v.ownBlock) : Below N w0 w' :=
  hB.grown hg hN fun k e => by
    rcases h with e1 | ⟨g, e1, e2⟩
    · rw [e1] at e; cases e
    · rw [e1] at e; cases e; exact e2

/-- A new object, in its place. -/
def Mo.lay (m : Mo) (a : Int) (words : Nat) (at' : Bool) : Mo := { m with objs := m.objs.take (lead a m.objs) ++ ⟨a, at', List.replicate words 0⟩ :: m.objs.drop (lead a m.objs), since := m.since + words }

set_option maxRecDepth 10000 in
set_option maxHeartbeats 400000 in
theorem lay_false (R : RL) (m : Mo) (a : Int) (n words : Nat) (at' : Bool) (w : World) (h : RefIs w R m) (bd : m.bd) (hn : 1 ≤ n) (hw : Hid (sizeOf' n = words)) (hw1 : 1 ≤ words) (hw2 : words ≤ 1536) (hn2 : n ≤ 1536) (hf : m.fits a words at' = false) :
    Calls Tryd.prog 67 #[.pointer (some ⟨R.r, 0, none⟩), .int .i64 a, .int .i64 n, .bool at'] w fun e w' => e = .returned (.bool false) ∧ Below w.heap.size w w' := by
  have C1 : Hid (Calls Tryd.prog 85 #[.int .i64 n] w fun e w' => e = .returned (.int .i64 words) ∧ Below w.heap.size w w') := by
    have := rounded_any n w (by omega) (by omega)
    rw [hw.out] at this
    exact this
  have C2 : Hid (∀ w1, Below w.heap.size w w1 → Calls Tryd.prog 87 #[.pointer (some ⟨R.r, 0, none⟩), .int .i64 a, .int .i64 words, .bool at'] w1 fun e w' => e = .returned (.bool false) ∧ Below w.heap.size w w') := by
    intro w1 hb
    have := chain_below hb (fits_any R m a words at' w1 (h.below hb) bd hw1 hw2)
    rw [hf] at this
    exact this
  clear h bd hf hw
  go_enter Tryd.func67, Tryd.ntmps67
  go_wp2_with (first | (go_at_call 85; refine (unhide C1).mono ?_; rintro e w1 ⟨rfl, hb⟩) | (go_at_call 87; refine (unhide C2 _ (by assumption)).mono ?_; rintro e w2 ⟨rfl, hb2⟩))
  go_ret
  exact ⟨rfl, by assumption⟩

theorem getD_mid (X Y : List Nat) (b i : Nat) : (X ++ b :: Y).getD i 0 = if i < X.length then X.getD i 0 else if i = X.length then b else Y.getD (i - X.length - 1) 0 := by
  simp only [List.getD_eq_getElem?_getD]
  by_cases c : i < X.length
  · rw [if_pos c, List.getElem?_append_left c]
  · rw [if_neg c, List.getElem?_append_right (by omega)]
    by_cases c2 : i = X.length
    · rw [if_pos c2, c2, Nat.sub_self]; rfl
    · obtain ⟨j, hj⟩ : ∃ j, i - X.length = j + 1 := ⟨i - X.length - 1, by omega⟩
      rw [if_neg c2, hj]; rfl
theorem ob_mid (A B : List Ob) (o : Ob) (i : Nat) (h : i < (A ++ o :: B).length) : (A ++ o :: B)[i] = if c : i < A.length then A[i] else if c2 : i = A.length then o else B[i - A.length - 1]'(by simp at h; omega) := by
  by_cases c : i < A.length
  · rw [dif_pos c, List.getElem_append_left c]
  · rw [dif_neg c, List.getElem_append_right (by omega)]
    by_cases c2 : i = A.length
    · rw [dif_pos c2]; simp [c2]
    · rw [dif_neg c2, List.getElem_cons, dif_neg (by omega)]

theorem lay_end {w w4 : World} {R : RL} {m : Mo} (h : RefIs w R m) (a : Int) (at' : Bool) (words K nb : Nat) (v2 : Value) (hK : K ≤ m.objs.length) (hKl : K = lead a m.objs) (b4 : Below w.heap.size w w4)
    (ho2 : w4.ownsRow 0 89 3 v2 ((K + 1) + (m.objs.length - K)) ((obCells (m.objs.take K) (R.wb.take K) ++ [.int .i64 a, .bool at', .slice (some ⟨nb, 0, none⟩) words words]) ++ obCells (m.objs.drop K) (R.wb.drop K)))
    (hnb : w4.heap[nb]? = some (intRow words)) (hnb2 : w.heap.size ≤ nb) (hown : Own w.heap.size v2) (hne : v2.ownBlock ≠ some nb) :
    RefTo w R (m.lay a words at') ((w4.setCell ⟨R.r, 3, none⟩ v2).setCell ⟨R.r, 6, none⟩ (.int .i64 (m.since + words : Nat))) := by
  have hl := h.len
  have h4 := h.below b4
  have hwnd := h.parts.2.2.2.2
  have hnbn : nb ∉ R.wb := fun e => by have := h.lt nb (by simp [RL.blocks, e]); omega
  have e0 : m.lay a words at' = ({ m with objs := m.objs.take K ++ (⟨a, at', List.replicate words 0⟩ : Ob) :: m.objs.drop K, since := m.since + words } : Mo) := by rw [hKl]; rfl
  rw [e0]
  refine RefTo.field (m := ({ m with objs := m.objs.take K ++ (⟨a, at', List.replicate words 0⟩ : Ob) :: m.objs.drop K } : Mo)) ?_ 6 _ fun R' h' => h'.setSince _
  have la : (m.objs.take K).length = K := by simp; omega
  have lx : (R.wb.take K).length = K := by simp; omega
  refine h.setObjs v2 _ (R.wb.take K ++ nb :: R.wb.drop K) (fun k hk _ => b4.block k hk) (Touch.of_below b4) ?_ ?_ ?_ (.inr hown) ?_ ?_ ?_
  · have e1 : (m.objs.take K ++ (⟨a, at', List.replicate words 0⟩ : Ob) :: m.objs.drop K).length = (K + 1) + (m.objs.length - K) := by simp; omega
    have e2 : obCells (m.objs.take K ++ (⟨a, at', List.replicate words 0⟩ : Ob) :: m.objs.drop K) (R.wb.take K ++ nb :: R.wb.drop K) = (obCells (m.objs.take K) (R.wb.take K) ++ [.int .i64 a, .bool at', .slice (some ⟨nb, 0, none⟩) words words]) ++ obCells (m.objs.drop K) (R.wb.drop K) := by
      rw [obCells_append _ _ _ _ (by omega), List.append_assoc]
      simp [obCells]
    rw [e1, e2]
    exact ho2
  · intro i hi
    have hi' : i < m.objs.length + 1 := by simp at hi; omega
    rw [getD_mid, ob_mid]
    simp only [la, lx]
    by_cases c : i < K
    · rw [if_pos c, dif_pos c]
      have := h4.hw i (by omega)
      have e3 : (R.wb.take K).getD i 0 = R.wAt i := by unfold RL.wAt; simp only [List.getD_eq_getElem?_getD, List.getElem?_take, if_pos c]
      rw [e3, List.getElem_take]
      exact this
    · rw [if_neg c, dif_neg c]
      by_cases c2 : i = K
      · rw [if_pos c2, dif_pos c2, hnb]
        show some (Obj.cells (madeCells _ _) _) = _
        rw [madeCells_one, ints_replicate]
      · rw [if_neg c2, dif_neg c2]
        have := h4.hw (i - 1) (by omega)
        have e4 : K + (i - K - 1) = i - 1 := by omega
        have e3 : (R.wb.drop K).getD (i - K - 1) 0 = R.wAt (i - 1) := by unfold RL.wAt; simp only [List.getD_eq_getElem?_getD, List.getElem?_drop, e4]
        rw [e3, this]
        simp only [List.getElem_drop, e4]
  · simp; omega
  · have hs : R.wb = R.wb.take K ++ R.wb.drop K := (List.take_append_drop K R.wb).symm
    rw [hs] at hwnd hnbn
    rw [List.nodup_append] at hwnd ⊢
    obtain ⟨n1, n2, n3⟩ := hwnd
    simp only [List.mem_append, not_or] at hnbn
    refine ⟨n1, List.nodup_cons.2 ⟨hnbn.2, n2⟩, fun x hx y hy => ?_⟩
    rcases List.mem_cons.1 hy with rfl | hy
    · rintro rfl; exact hnbn.1 hx
    · exact n3 x hx y hy
  · intro k hk
    rcases List.mem_append.1 hk with hk | hk
    · exact .inl (List.mem_of_mem_take hk)
    · rcases List.mem_cons.1 hk with rfl | hk
      · exact .inr hnb2
      · exact .inl (List.mem_of_mem_drop hk)
  · intro k hk hm
    have hkN : w.heap.size ≤ k := by
      rcases hown with e | ⟨g, e1, e2⟩
      · rw [e] at hk; cases hk
      · rw [e1] at hk; cases hk; exact e2
    have hin : k ∈ R.wb → False := fun e => by have := h.lt k (by simp [RL.blocks, e]); omega
    rcases List.mem_append.1 hm with hm | hm
    · exact hin (List.mem_of_mem_take hm)
    · rcases List.mem_cons.1 hm with rfl | hm
      · exact hne hk
      · exact hin (List.mem_of_mem_drop hm)

theorem rowtwo (wr : World) (A : Obj) (x y z : Value) : ((wr.alloc A).alloc (.cells #[x, y, z] 89)).cell? ⟨wr.heap.size + 1, 0 + 0, none⟩ = some x ∧ ((wr.alloc A).alloc (.cells #[x, y, z] 89)).cell? ⟨wr.heap.size + 1, 0 + 1, none⟩ = some y ∧ ((wr.alloc A).alloc (.cells #[x, y, z] 89)).cell? ⟨wr.heap.size + 1, 0 + 2, none⟩ = some z := by
  refine ⟨?_, ?_, ?_⟩ <;> (rw [cell_of_row _ _ _ _ _ _ (heap_alloc2_new wr _ _)]; rfl)
theorem lay_block {wr w3 : World} {v0 v1 : Value} {K : Nat} {xs : List Value} {A B : Obj} (hr : wr.ownsRow 0 89 3 v0 K xs) (hg : ((wr.alloc A).alloc B).grownBy w3 v0.ownBlock) (hl : v1.ownBlock = v0.ownBlock ∨ ∃ g, v1.ownBlock = some g ∧ ((wr.alloc A).alloc B).heap.size ≤ g) :
    w3.heap[wr.heap.size]? = some A ∧ v1.ownBlock ≠ some wr.heap.size ∧ wr.heap.size < w3.heap.size := by
  have h0 : v0.ownBlock ≠ some wr.heap.size := fun e => by have := (hr.lt _ e).2; omega
  have hs := hg.size
  simp at hs
  refine ⟨?_, ?_, by omega⟩
  · rw [hg.block _ (by simp; omega) (fun e => h0 e.symm)]
    exact heap_alloc2_old wr A B
  · rcases hl with e | ⟨g, e1, e2⟩
    · rw [e]; exact h0
    · rw [e1]; simp at e2; simp only [ne_eq, Option.some.injEq]; omega

set_option maxRecDepth 10000 in
set_option maxHeartbeats 1600000 in
theorem lay_true (R : RL) (m : Mo) (a : Int) (n words : Nat) (at' : Bool) (w : World) (h : RefIs w R m) (bd : m.bd) (hn : 1 ≤ n) (hw : Hid (sizeOf' n = words)) (hw1 : 1 ≤ words) (hw2 : words ≤ 1536) (hn2 : n ≤ 1536) (hf : m.fits a words at' = true) :
    Calls Tryd.prog 67 #[.pointer (some ⟨R.r, 0, none⟩), .int .i64 a, .int .i64 n, .bool at'] w fun e w' => e = .returned (.bool true) ∧ RefTo w R (m.lay a words at') w' := by
  have C1 : Hid (Calls Tryd.prog 85 #[.int .i64 n] w fun e w' => e = .returned (.int .i64 words) ∧ Below w.heap.size w w') := by
    have := rounded_any n w (by omega) (by omega)
    rw [hw.out] at this
    exact this
  have C2 : Hid (∀ w1, Below w.heap.size w w1 → Calls Tryd.prog 87 #[.pointer (some ⟨R.r, 0, none⟩), .int .i64 a, .int .i64 words, .bool at'] w1 fun e w' => e = .returned (.bool true) ∧ Below w.heap.size w w') := by
    intro w1 hb
    have := chain_below hb (fits_any R m a words at' w1 (h.below hb) bd hw1 hw2)
    rw [hf] at this
    exact this
  obtain ⟨i0, zi, hz0, hz1, hz2⟩ := info_parts Tryd.infoObj
  have bo := bd.objs
  have bs := bd.since
  have HH := hide h
  have hL := lead_le a m.objs
  have hlen := h.len
  have HL := hide hlen
  clear h bd hf hw hlen
  go_enter Tryd.func67, Tryd.ntmps67
  go_wp2_with (first | (go_at_call 85; refine (unhide C1).mono ?_; rintro e w1 ⟨rfl, hb⟩) | (go_at_call 87; refine (unhide C2 _ (by assumption)).mono ?_; rintro e w2 ⟨rfl, hb2⟩))
  go_loopw [11, 12] (fun v i wr => ∃ k : Nat, k ≤ lead a m.objs ∧ i = .int .i64 k ∧ Below w.heap.size w wr ∧ Hid (Own w.heap.size v) ∧ Hid (wr.ownsRow 0 89 3 v k (obCells (m.objs.take k) (R.wb.take k)))) (fun _ i _ => m.objs.length - (intOf i).toNat)
  case atStart => exact ⟨0, by omega, rfl, by assumption, hide (Own.nil _), hide (World.ownsRow_nil _ _ _ _)⟩
  case round =>
    obtain ⟨k, hk, rfl, hB, HO, HR⟩ := hrel
    have H1 := hide ((unhide HH).below hB)
    have sB := hB.size
    by_cases hlt : k < lead a m.objs
    · obtain ⟨hkl, hpos⟩ := (lead_step a m.objs k hk).1 hlt
      obtain ⟨g, cap, hv, hg, hc1, hc2, o1, o2, o3⟩ := (unhide H1).ob k hkl
      have fo := (unhide H1).cells.2.2.2.1
      rw [hv] at fo
      unfold maxLen at hc2
      have HT : Hid (obCells (m.objs.take (k + 1)) (R.wb.take (k + 1)) = obCells (m.objs.take k) (R.wb.take k) ++ [.int .i64 (m.objs[k]).pos, .bool (m.objs[k]).atomic, .slice (some ⟨R.wAt k, 0, none⟩) (m.objs[k]).ws.length (m.objs[k]).ws.length]) := by
        have hl := unhide HL
        have e : R.wb[k]'(by omega) = R.wAt k := by unfold RL.wAt; rw [List.getD_eq_getElem?_getD, List.getElem?_eq_getElem (by omega)]; rfl
        show obCells _ _ = _
        rw [List.take_succ_eq_append_getElem hkl, List.take_succ_eq_append_getElem (by omega), obCells_append _ _ _ _ (by simp [hl]), e]
        rfl
      generalize m.objs[k] = o at o1 o2 o3 hpos HT
      obtain ⟨P, A, ws⟩ := o
      dsimp only at o1 o2 o3 hpos HT
      clear hv
      go_wp2_with (at_builtin; refine stop ?_)
      refine hide (wpList_append_at _ rfl _ _ 81 rfl 89 i0 _ 3 40 Tryd.underlying81 zi hz0 hz1 hz2 rfl (by decide) _ k _ rfl ((unhide HR).alloc _) ⟨wr.heap.size, 0, none⟩ 1 1 [.int .i64 P, .bool A, .slice (some ⟨R.wAt k, 0, none⟩) ws.length ws.length] rfl rfl ?c1 ?c2 (by decide) (by unfold maxLen; omega) (by omega) ?_)
      case c1 =>
        intro j u hj
        rw [add_nat]
        match j, hj with
        | 0, hj => simp at hj; subst hj; simp
        | 1, hj => simp at hj; subst hj; simp
        | 2, hj => simp at hj; subst hj; simp
      case c2 => intro u hu; simp at hu; rcases hu with rfl | rfl | rfl <;> rfl
      intro v1 w3 ho1 hg1 hl1
      have HO1 := hide ((unhide HO).next (by simp; omega) hl1)
      have hB1 := (unhide HO).grown (hB.alloc hB.size (.cells #[.int .i64 P, .bool A, .slice (some ⟨R.wAt k, 0, none⟩) ws.length ws.length] 89)) (by simp; omega) hg1
      have HR1 : Hid (w3.ownsRow 0 89 3 v1 (k + 1) (obCells (m.objs.take (k + 1)) (R.wb.take (k + 1)))) := by rw [HT.out]; exact ho1
      clear ho1 hg1 hl1 o1 o2 o3 fo
      go_wp2
      go_roundw
      case rel => first | exact ⟨k + 1, by omega, by go_num, hB1, HO1, HR1⟩ | ((repeat apply Exists.intro); exact ⟨⟨k + 1, by omega, by go_num, hB1, HO1, HR1⟩, rfl⟩)
      case measure => simp [intOf]; omega
    · obtain rfl : k = lead a m.objs := by omega
      generalize hKK : lead a m.objs = K at hL HR hk ⊢
      have HK := hide hKK.symm
      have hnot : ¬ ∃ h : K < m.objs.length, (m.objs[K]).pos < a := by
        have := lead_step a m.objs K (by omega)
        rw [hKK] at this
        exact fun e => absurd (this.2 e) (by omega)
      clear hKK hlt
      have mk := mkInts words (by omega)
      generalize hu : u11 = v0 at HR HO ⊢
      clear hu
      by_cases ck : K < m.objs.length
      · have hpos : ¬ (m.objs[K]).pos < a := fun e => hnot ⟨ck, e⟩
        obtain ⟨g, cap, hv, hg, hc1, hc2, o1, o2, o3⟩ := (unhide H1).ob K ck
        have fo := (unhide H1).cells.2.2.2.1
        rw [hv] at fo
        unfold maxLen at hc2
        have HVV := hide hv
        generalize m.objs[K] = o at o1 o2 o3 hpos
        obtain ⟨P, A, ws⟩ := o
        dsimp only at o1 o2 o3 hpos
        clear hv hnot
        go_wp2_with (at_builtin; refine stop ?_)
        refine hide (wpList_append_at _ rfl _ _ 81 rfl 89 i0 _ 3 40 Tryd.underlying81 zi hz0 hz1 hz2 rfl (by decide) v0 K _ rfl (((unhide HR).alloc _).alloc _) ⟨wr.heap.size + 1, 0, none⟩ 1 1 [.int .i64 a, .bool at', .slice (some ⟨wr.heap.size, 0, none⟩) words words] rfl rfl ?c1 ?c2 (by decide) (by unfold maxLen; omega) (by omega) ?_)
        case c1 =>
          intro j u hj
          rw [add_nat]
          match j, hj with
          | 0, hj => simp at hj; subst hj; exact (rowtwo wr _ _ _ _).1
          | 1, hj => simp at hj; subst hj; exact (rowtwo wr _ _ _ _).2.1
          | 2, hj => simp at hj; subst hj; exact (rowtwo wr _ _ _ _).2.2
        case c2 => intro u hu; simp at hu; rcases hu with rfl | rfl | rfl <;> rfl
        intro v1 w3 ho1 hg1 hl1
        have HG := hide hg1
        have HO1 := hide ((unhide HO).next (by simp; omega) hl1)
        have hB1 := (unhide HO).grown ((hB.alloc hB.size (intRow words)).alloc (by simp; omega) (.cells #[.int .i64 a, .bool at', .slice (some ⟨wr.heap.size, 0, none⟩) words words] 89)) (by simp; omega) hg1
        have HN : Hid (w3.heap[wr.heap.size]? = some (intRow words) ∧ v1.ownBlock ≠ some wr.heap.size ∧ wr.heap.size < w3.heap.size) := lay_block (unhide HR) hg1 hl1
        have HR1 := hide ho1
        have H3 := hide ((unhide HH).below hB1)
        have fo3 := (unhide H3).cells.2.2.2.1
        rw [unhide HVV] at fo3
        have s3 := hB1.size
        clear ho1 hg1 hl1
        clear o1 o2 o3 fo
        have T2 : Hid (∀ ad : Addr, (ad = ⟨g, K * 3, none⟩ ∨ m.objs.length ≤ K) → ∀ j u, (obCells (m.objs.drop K) (R.wb.drop K))[j]? = some u → w3.cell? (ad.add j) = some u) := fun ad had => tail_cells (unhide H3) (unhide HVV) K ad had
        have l2 : Hid ((obCells (m.objs.drop K) (R.wb.drop K)).length = (m.objs.length - K) * 3) := by
          have hl := unhide HL
          show List.length _ = _
          rw [obCells_length _ _ (by simp [hl])]
          simp
        have n2 : Hid (∀ u ∈ obCells (m.objs.drop K) (R.wb.drop K), u.oneCell' = true) := obCells_one _ _ (by have hl := unhide HL; simp [hl])
        go_wp2_with (at_builtin; refine stop ?_)
        all_goals
          refine hide (wpList_append_any _ rfl _ _ 81 rfl 89 i0 _ 3 40 Tryd.underlying81 zi hz0 hz1 hz2 rfl (by decide) v1 (K + 1) _ rfl (unhide HR1) _ (m.objs.length - K) _ (obCells (m.objs.drop K) (R.wb.drop K)) rfl (unhide l2) (fun h => by cases h) (fun ad had => unhide T2 ad (by cases had; first | exact .inl rfl | exact .inr (by omega))) (unhide n2) (by unfold maxLen; omega) (by omega) ?_)
          intro v2 w4 ho2 hg2 hl2
          have hB2 := (unhide HO1).grown hB1 (by omega) hg2
          have HO2 := hide ((unhide HO1).next (by omega) hl2)
          have HN2 : Hid (w4.heap[wr.heap.size]? = some (intRow words) ∧ v2.ownBlock ≠ some wr.heap.size) := by
            obtain ⟨q1, q2, q3⟩ := unhide HN
            refine ⟨by rw [hg2.block _ q3 (fun e => q2 e.symm)]; exact q1, ?_⟩
            rcases hl2 with e | ⟨g', e1, e2⟩
            · rw [e]; exact q2
            · rw [e1]; simp only [ne_eq, Option.some.injEq]; omega
          obtain ⟨ao', cap', hv', hd1, hd2⟩ := ownsRow_shape ho2
          rw [hv'] at ho2 HO2 HN2 ⊢
          clear hv'
          have HF := hide (lay_end (unhide HH) a at' words K wr.heap.size _ hL (unhide HK) hB2 ho2 (unhide HN2).1 (by omega) (unhide HO2) (unhide HN2).2)
          have H4 := hide ((unhide HH).below hB2)
          have fo4 := (unhide H4).cells.2.2.2.1
          have fs4 := (unhide H4).cells.2.2.2.2.2.2.1
          rw [unhide HVV] at fo4
          have z4 := (unhide H4).frozen
          clear ho2 hg2 hl2 fo3
          go_wp2
          go_ret
          exact ⟨rfl, unhide HF⟩
      · rcases (unhide H1).ho.2 with ⟨hv, h0⟩ | ⟨g, cap, cur, hv, _, hgg, hc1, hc2, _⟩
        · have HVV := hide hv
          have fo := (unhide H1).cells.2.2.2.1
          rw [hv] at fo
          obtain rfl : K = 0 := by omega
          have E0 := hide h0
          have h0' : m.objs.length ≤ 0 := by omega
          clear hv hnot ck h0 hk bo hL
          have hL : 0 ≤ m.objs.length := Nat.zero_le _
          go_wp2_with (at_builtin; refine stop ?_)
          refine hide (wpList_append_at _ rfl _ _ 81 rfl 89 i0 _ 3 40 Tryd.underlying81 zi hz0 hz1 hz2 rfl (by decide) v0 0 _ rfl (((unhide HR).alloc _).alloc _) ⟨wr.heap.size + 1, 0, none⟩ 1 1 [.int .i64 a, .bool at', .slice (some ⟨wr.heap.size, 0, none⟩) words words] rfl rfl ?c1 ?c2 (by decide) (by unfold maxLen; omega) (by omega) ?_)
          case c1 =>
            intro j u hj
            rw [add_nat]
            match j, hj with
            | 0, hj => simp at hj; subst hj; exact (rowtwo wr _ _ _ _).1
            | 1, hj => simp at hj; subst hj; exact (rowtwo wr _ _ _ _).2.1
            | 2, hj => simp at hj; subst hj; exact (rowtwo wr _ _ _ _).2.2
          case c2 => intro u hu; simp at hu; rcases hu with rfl | rfl | rfl <;> rfl
          intro v1 w3 ho1 hg1 hl1
          have HG := hide hg1
          have HO1 := hide ((unhide HO).next (by simp; omega) hl1)
          have hB1 := (unhide HO).grown ((hB.alloc hB.size (intRow words)).alloc (by simp; omega) (.cells #[.int .i64 a, .bool at', .slice (some ⟨wr.heap.size, 0, none⟩) words words] 89)) (by simp; omega) hg1
          have HN : Hid (w3.heap[wr.heap.size]? = some (intRow words) ∧ v1.ownBlock ≠ some wr.heap.size ∧ wr.heap.size < w3.heap.size) := lay_block (unhide HR) hg1 hl1
          have HR1 := hide ho1
          have H3 := hide ((unhide HH).below hB1)
          have fo3 := (unhide H3).cells.2.2.2.1
          rw [unhide HVV] at fo3
          have s3 := hB1.size
          clear ho1 hg1 hl1
          clear fo
          go_wp2_with (at_builtin; refine stop ?_)
          refine hide (wpList_append_any _ rfl _ _ 81 rfl 89 i0 _ 3 40 Tryd.underlying81 zi hz0 hz1 hz2 rfl (by decide) v1 (0 + 1) _ rfl (unhide HR1) none 0 0 (obCells (m.objs.drop 0) (R.wb.drop 0)) rfl ?c3 (fun _ => ⟨rfl, rfl⟩) (fun ad had => by cases had) ?c4 (by unfold maxLen; omega) (by omega) ?_)
          case c3 =>
            have := unhide E0
            rw [List.eq_nil_of_length_eq_zero this]
            simp [obCells]
          case c4 =>
            have := unhide E0
            rw [List.eq_nil_of_length_eq_zero this]
            simp [obCells]
          intro v2 w4 ho2 hg2 hl2
          have hB2 := (unhide HO1).grown hB1 (by omega) hg2
          have HO2 := hide ((unhide HO1).next (by omega) hl2)
          have HN2 : Hid (w4.heap[wr.heap.size]? = some (intRow words) ∧ v2.ownBlock ≠ some wr.heap.size) := by
            obtain ⟨q1, q2, q3⟩ := unhide HN
            refine ⟨by rw [hg2.block _ q3 (fun e => q2 e.symm)]; exact q1, ?_⟩
            rcases hl2 with e | ⟨g', e1, e2⟩
            · rw [e]; exact q2
            · rw [e1]; simp only [ne_eq, Option.some.injEq]; omega
          obtain ⟨ao', cap', hv', hd1, hd2⟩ := ownsRow_shape ho2
          rw [hv'] at ho2 HO2 HN2 ⊢
          clear hv'
          have HF := hide (lay_end (unhide HH) a at' words 0 wr.heap.size _ hL (unhide HK) hB2 (by rw [show m.objs.length - 0 = 0 from unhide E0]; exact ho2) (unhide HN2).1 (by omega) (unhide HO2) (unhide HN2).2)
          have H4 := hide ((unhide HH).below hB2)
          have fo4 := (unhide H4).cells.2.2.2.1
          have fs4 := (unhide H4).cells.2.2.2.2.2.2.1
          rw [unhide HVV] at fo4
          have z4 := (unhide H4).frozen
          clear ho2 hg2 hl2 fo3
          go_wp2
          go_ret
          exact ⟨rfl, unhide HF⟩
        · have HVV := hide hv
          have fo := (unhide H1).cells.2.2.2.1
          rw [hv] at fo
          unfold maxLen at hc2
          have ck' : m.objs.length ≤ K := by omega
          have E0 : Hid (m.objs.length - K = 0) := hide (by omega)
          have D0 : Hid (m.objs.drop K = []) := hide (List.drop_eq_nil_of_le ck')
          clear hv hnot ck hgg
          go_wp2_with (at_builtin; refine stop ?_)
          refine hide (wpList_append_at _ rfl _ _ 81 rfl 89 i0 _ 3 40 Tryd.underlying81 zi hz0 hz1 hz2 rfl (by decide) v0 K _ rfl (((unhide HR).alloc _).alloc _) ⟨wr.heap.size + 1, 0, none⟩ 1 1 [.int .i64 a, .bool at', .slice (some ⟨wr.heap.size, 0, none⟩) words words] rfl rfl ?c1 ?c2 (by decide) (by unfold maxLen; omega) (by omega) ?_)
          case c1 =>
            intro j u hj
            rw [add_nat]
            match j, hj with
            | 0, hj => simp at hj; subst hj; exact (rowtwo wr _ _ _ _).1
            | 1, hj => simp at hj; subst hj; exact (rowtwo wr _ _ _ _).2.1
            | 2, hj => simp at hj; subst hj; exact (rowtwo wr _ _ _ _).2.2
          case c2 => intro u hu; simp at hu; rcases hu with rfl | rfl | rfl <;> rfl
          intro v1 w3 ho1 hg1 hl1
          have HG := hide hg1
          have HO1 := hide ((unhide HO).next (by simp; omega) hl1)
          have hB1 := (unhide HO).grown ((hB.alloc hB.size (intRow words)).alloc (by simp; omega) (.cells #[.int .i64 a, .bool at', .slice (some ⟨wr.heap.size, 0, none⟩) words words] 89)) (by simp; omega) hg1
          have HN : Hid (w3.heap[wr.heap.size]? = some (intRow words) ∧ v1.ownBlock ≠ some wr.heap.size ∧ wr.heap.size < w3.heap.size) := lay_block (unhide HR) hg1 hl1
          have HR1 := hide ho1
          have H3 := hide ((unhide HH).below hB1)
          have fo3 := (unhide H3).cells.2.2.2.1
          rw [unhide HVV] at fo3
          have s3 := hB1.size
          clear ho1 hg1 hl1
          clear fo
          go_wp2_with (at_builtin; refine stop ?_)
          all_goals
            refine hide (wpList_append_any _ rfl _ _ 81 rfl 89 i0 _ 3 40 Tryd.underlying81 zi hz0 hz1 hz2 rfl (by decide) v1 (K + 1) _ rfl (unhide HR1) _ 0 _ (obCells (m.objs.drop K) (R.wb.drop K)) rfl (by rw [unhide D0]; simp [obCells]) (fun h => by cases h) (fun ad had j u hu => by rw [unhide D0] at hu; simp [obCells] at hu) (by rw [unhide D0]; simp [obCells]) (by unfold maxLen; omega) (by omega) ?_)
            intro v2 w4 ho2 hg2 hl2
            have hB2 := (unhide HO1).grown hB1 (by omega) hg2
            have HO2 := hide ((unhide HO1).next (by omega) hl2)
            have HN2 : Hid (w4.heap[wr.heap.size]? = some (intRow words) ∧ v2.ownBlock ≠ some wr.heap.size) := by
              obtain ⟨q1, q2, q3⟩ := unhide HN
              refine ⟨by rw [hg2.block _ q3 (fun e => q2 e.symm)]; exact q1, ?_⟩
              rcases hl2 with e | ⟨g', e1, e2⟩
              · rw [e]; exact q2
              · rw [e1]; simp only [ne_eq, Option.some.injEq]; omega
            obtain ⟨ao', cap', hv', hd1, hd2⟩ := ownsRow_shape ho2
            rw [hv'] at ho2 HO2 HN2 ⊢
            clear hv'
            have HF := hide (lay_end (unhide HH) a at' words K wr.heap.size _ hL (unhide HK) hB2 (by rw [unhide E0]; exact ho2) (unhide HN2).1 (by omega) (unhide HO2) (unhide HN2).2)
            have H4 := hide ((unhide HH).below hB2)
            have fo4 := (unhide H4).cells.2.2.2.1
            have fs4 := (unhide H4).cells.2.2.2.2.2.2.1
            rw [unhide HVV] at fo4
            have z4 := (unhide H4).frozen
            clear ho2 hg2 hl2 fo3
            go_wp2
            go_ret
            exact ⟨rfl, unhide HF⟩
end Go.Proofs.YtgegkcjllliifabDoor
