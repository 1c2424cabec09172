/-
  The walks of the reference heap's Word and Free.
-/
import Derived.Test.YtgegkcjllliifabDoorRefObjs
import Derived.Test.YtgegkcjllliifabDoorRefRoom
namespace Go.Proofs.YtgegkcjllliifabDoor
open Go.RowKit

theorem findFrom_spec (a : Int) : ∀ (l : List Ob) (k : Nat), findFrom a k l = -1 ∨ ∃ i, findFrom a k l = ((k + i : Nat) : Int) ∧ ∃ h : i < l.length, (l[i]).has a = true
  | [], k => .inl rfl
  | o :: r, k => by
    rw [findFrom]
    by_cases c : o.has a = true
    · rw [if_pos c]; exact .inr ⟨0, by simp, by simp, by simpa using c⟩
    · rw [if_neg c]
      rcases findFrom_spec a r (k + 1) with e | ⟨i, e, h, e'⟩
      · exact .inl e
      · exact .inr ⟨i + 1, by rw [e]; omega, by simpa using h, by simpa using e'⟩
theorem find_cases (m : Mo) (a : Int) : m.find a = -1 ∨ ∃ i : Nat, m.find a = i ∧ ∃ h : i < m.objs.length, (m.objs[i]).pos ≤ a ∧ a < (m.objs[i]).pos + 8 * ((m.objs[i]).ws.length : Int) := by
  rcases findFrom_spec a m.objs 0 with e | ⟨i, e, h, e'⟩
  · exact .inl e
  · right
    refine ⟨i, by unfold Mo.find; rw [e]; omega, h, ?_⟩
    simpa [Ob.has] using e'

set_option maxRecDepth 10000 in
set_option maxHeartbeats 400000 in
theorem word_none (R : RL) (m : Mo) (a : Int) (w : World) (h : RefIs w R m) (bd : m.bd) (ha : a % 8 = 0) (hf : m.find a = -1) :
    Calls Tryd.prog 68 #[.pointer (some ⟨R.r, 0, none⟩), .int .i64 a] w fun e w' => e = .returned (.tuple #[.int .i64 0, .int .i64 0, .int .i64 5]) ∧ Below w.heap.size w w' := by
  have C := hide (find_any R m a w h bd)
  rw [hf] at C
  have h1 : (a.tmod 8 == 0) = true := by rw [beq_iff_eq]; exact (tmod8 a).2 ha
  by_cases c : 0 ≤ a
  · have h2 : (a % 8 == 0) = true := by rw [beq_iff_eq]; exact ha
    clear h1 ha h bd hf
    go_enter Tryd.func68, Tryd.ntmps68
    go_wp2_with (go_at_call 69; refine (unhide C).mono ?_; rintro e w' ⟨rfl, hb⟩)
    go_ret3
    exact ⟨rfl, by assumption⟩
  · clear ha h bd hf
    go_enter Tryd.func68, Tryd.ntmps68
    go_wp2_with (go_at_call 69; refine (unhide C).mono ?_; rintro e w' ⟨rfl, hb⟩)
    go_ret3
    exact ⟨rfl, by assumption⟩

set_option maxRecDepth 10000 in
set_option maxHeartbeats 800000 in
theorem word_some (R : RL) (m : Mo) (a : Int) (i : Nat) (w : World) (h : RefIs w R m) (bd : m.bd) (ha : a % 8 = 0) (hf : m.find a = i) (hi : i < m.objs.length) (h1 : (m.objs[i]).pos ≤ a) (h2 : a < (m.objs[i]).pos + 8 * ((m.objs[i]).ws.length : Int)) :
    Calls Tryd.prog 68 #[.pointer (some ⟨R.r, 0, none⟩), .int .i64 a] w fun e w' => e = .returned (.tuple #[.int .i64 i, .int .i64 ((a - (m.objs[i]).pos) / 8), .int .i64 0]) ∧ Below w.heap.size w w' := by
  have C := hide (find_any R m a w h bd)
  rw [hf] at C
  obtain ⟨b1, b2, b3⟩ := bd.pos i hi
  have bo := bd.objs
  have h3 : (a % 8 == 0) = true := by rw [beq_iff_eq]; exact ha
  have HH := hide h
  obtain ⟨g, cap, hv, hg, hc1, hc2, _, _, _⟩ := h.ob i hi
  unfold maxLen at hc2
  have HV := hide hv
  generalize hob : m.objs[i] = o at h1 h2 b1 b2 b3 ⊢
  obtain ⟨P, A, ws⟩ := o
  dsimp only at h1 h2 b1 b2 b3 ⊢
  have HO := hide hob
  clear hob ha h bd hf hv
  go_enter Tryd.func68, Tryd.ntmps68
  go_wp2_with (go_at_call 69; refine (unhide C).mono ?_; rintro e w1 ⟨rfl, hb⟩)
  have h' := (unhide HH).below hb
  have fo := h'.cells.2.2.2.1
  obtain ⟨g', cap', hv', _, _, _, o1, _, _⟩ := h'.ob i hi
  rw [unhide HV] at hv' fo
  simp only [Value.slice.injEq, Option.some.injEq, Addr.mk.injEq, and_true, true_and] at hv'
  obtain ⟨rfl, rfl⟩ := hv'
  rw [unhide HO] at o1
  dsimp only at o1
  clear h'
  go_quiet (fail)
  go_wp2
  go_ret3
  refine ⟨ret_on rfl (by congr 1) rfl, ?_⟩
  exact ⟨hb.os, hb.tape, hb.output, hb.size, hb.block⟩

set_option maxRecDepth 10000 in
set_option maxHeartbeats 400000 in
theorem free_none (R : RL) (m : Mo) (a : Int) (w : World) (h : RefIs w R m) (bd : m.bd) (hf : m.find a = -1) :
    Calls Tryd.prog 70 #[.pointer (some ⟨R.r, 0, none⟩), .int .i64 a] w fun e w' => e = .returned (.int .i64 5) ∧ Below w.heap.size w w' := by
  have C := hide (find_any R m a w h bd)
  rw [hf] at C
  clear h bd hf
  go_enter Tryd.func70, Tryd.ntmps70
  go_wp2_with (go_at_call 69; refine (unhide C).mono ?_; rintro e w' ⟨rfl, hb⟩)
  go_ret
  exact ⟨rfl, by assumption⟩

theorem tail_cells {w : World} {R : RL} {m : Mo} (h : RefIs w R m) {g cap : Nat} (hv : R.vo = .slice (some ⟨g, 0, none⟩) m.objs.length cap) (i : Nat) (ad : Addr) (had : ad = ⟨g, i * 3, none⟩ ∨ m.objs.length ≤ i) :
    ∀ j u, (obCells (m.objs.drop i) (R.wb.drop i))[j]? = some u → w.cell? (ad.add j) = some u := by
  intro j u hu
  by_cases c : m.objs.length ≤ i
  · rw [List.drop_eq_nil_of_le c] at hu
    simp [obCells] at hu
  · rcases had with rfl | e
    · have := h.part i (m.objs.length - i) (by omega) hv j u (by rw [List.take_of_length_le (by simp), List.take_of_length_le (by simp [h.len])]; exact hu)
      rw [add_nat]
      exact this
    · omega

theorem free_below {w w1 w2 w3 : World} {v1 : Value} (hb : Below w.heap.size w w1) (hg1 : w1.grownBy w2 (Value.slice none 0 0).ownBlock) (hl1 : v1.ownBlock = (Value.slice none 0 0).ownBlock ∨ ∃ g, v1.ownBlock = some g ∧ w1.heap.size ≤ g) (hg2 : w2.grownBy w3 v1.ownBlock) : Below w.heap.size w w3 := by
  have s1 := hb.size
  have s2 := hg1.size
  refine (hb.trans ((⟨hg1.os, hg1.tape, hg1.output, hg1.size, fun k hk => hg1.block k (by omega) (fun e => by cases e)⟩ : Below w.heap.size w1 w2))).trans ⟨hg2.os, hg2.tape, hg2.output, hg2.size, fun k hk => hg2.block k (by omega) (fun e => ?_)⟩
  rcases hl1 with e1 | ⟨g, e1, e2⟩
  · rw [e1] at e; cases e
  · rw [e1] at e; cases e; omega

theorem getD_eraseIdx (l : List Nat) (i j : Nat) : (l.eraseIdx i).getD j 0 = if j < i then l.getD j 0 else l.getD (j + 1) 0 := by
  rw [List.getD_eq_getElem?_getD, List.getElem?_eraseIdx]
  split <;> rw [List.getD_eq_getElem?_getD]

theorem free_end {w w1 w2 w3 : World} {R : RL} {m : Mo} {v1 v2 : Value} (h : RefIs w R m) (i : Nat) (hi : i < m.objs.length) (hb : Below w.heap.size w w1) (hg1 : w1.grownBy w2 (Value.slice none 0 0).ownBlock) (hl1 : v1.ownBlock = (Value.slice none 0 0).ownBlock ∨ ∃ g, v1.ownBlock = some g ∧ w1.heap.size ≤ g)
    (ho2 : w3.ownsRow 0 89 3 v2 (i + (m.objs.length - (i + 1))) (obCells (m.objs.take i) (R.wb.take i) ++ obCells (m.objs.drop (i + 1)) (R.wb.drop (i + 1)))) (hg2 : w2.grownBy w3 v1.ownBlock) (hl2 : v2.ownBlock = v1.ownBlock ∨ ∃ g, v2.ownBlock = some g ∧ w2.heap.size ≤ g) :
    RefTo w R { m with objs := m.objs.eraseIdx i } (w3.setCell ⟨R.r, 3, none⟩ v2) := by
  have b3 := free_below hb hg1 hl1 hg2
  have s1 := hb.size
  have s2 := hg1.size
  have hl := h.len
  have hnew : v2.ownBlock = none ∨ ∃ g, v2.ownBlock = some g ∧ w.heap.size ≤ g := by
    rcases hl2 with e | ⟨g, e1, e2⟩
    · rcases hl1 with e' | ⟨g, e1, e2⟩
      · left; rw [e, e']; rfl
      · right; exact ⟨g, e.trans e1, by omega⟩
    · right; exact ⟨g, e1, by omega⟩
  refine h.setObjs v2 (m.objs.eraseIdx i) (R.wb.eraseIdx i) (fun k hk _ => b3.block k hk) (Touch.of_below b3) ?_ ?_ ?_ (.inr hnew) ?_ ?_ ?_
  · rw [List.length_eraseIdx, if_pos hi, List.eraseIdx_eq_take_drop_succ, List.eraseIdx_eq_take_drop_succ, obCells_append _ _ _ _ (by simp [hl])]
    have e : i + (m.objs.length - (i + 1)) = m.objs.length - 1 := by omega
    rw [e] at ho2
    exact ho2
  · intro j hj
    rw [List.length_eraseIdx, if_pos hi] at hj
    rw [getD_eraseIdx]
    have h' := h.below b3
    by_cases c : j < i
    · rw [if_pos c, List.getElem_eraseIdx_of_lt _ c]
      exact h'.hw j (by omega)
    · rw [if_neg c, List.getElem_eraseIdx_of_ge _ (by omega)]
      exact h'.hw (j + 1) (by omega)
  · rw [List.length_eraseIdx, List.length_eraseIdx, hl]
  · exact h.parts.2.2.2.2.sublist (List.eraseIdx_sublist _ _)
  · intro k hk
    exact .inl ((List.eraseIdx_sublist _ _).subset hk)
  · intro k hk hm
    have hm' := (List.eraseIdx_sublist R.wb i).subset hm
    have := h.lt k (by simp [RL.blocks, hm'])
    rcases hnew with e | ⟨g, e1, e2⟩
    · rw [e] at hk; cases hk
    · rw [e1] at hk; cases hk; omega

set_option maxRecDepth 10000 in
set_option maxHeartbeats 800000 in
theorem free_some (R : RL) (m : Mo) (a : Int) (i : Nat) (w : World) (h : RefIs w R m) (bd : m.bd) (hf : m.find a = i) (hi : i < m.objs.length) (he : (m.objs[i]).pos = a) :
    Calls Tryd.prog 70 #[.pointer (some ⟨R.r, 0, none⟩), .int .i64 a] w fun e w' => e = .returned (.int .i64 0) ∧ RefTo w R { m with objs := m.objs.eraseIdx i } w' := by
  have C := hide (find_any R m a w h bd)
  rw [hf] at C
  obtain ⟨i0, zi, hz0, hz1, hz2⟩ := info_parts Tryd.infoObj
  have bo := bd.objs
  have HH := hide h
  obtain ⟨g, cap, hv, hg, hc1, hc2, _, _, _⟩ := h.ob i hi
  unfold maxLen at hc2
  have HV := hide hv
  have HE := hide he
  clear h bd hf hv he
  go_enter Tryd.func70, Tryd.ntmps70
  go_wp2_with fail
  refine (unhide C).mono ?_
  rintro e w1 ⟨rfl, hb⟩
  have H1 := hide ((unhide HH).below hb)
  obtain ⟨g', cap', hv', _, _, _, o1, _, _⟩ := (unhide H1).ob i hi
  rw [unhide HV] at hv'
  simp only [Value.slice.injEq, Option.some.injEq, Addr.mk.injEq, and_true, true_and] at hv'
  obtain ⟨rfl, rfl⟩ := hv'
  rw [unhide HE] at o1
  have fo := (unhide H1).cells.2.2.2.1
  rw [unhide HV] at fo
  have L1 : Hid (∀ ad, some (⟨g, 0, none⟩ : Addr) = some ad → ∀ j u, (obCells (m.objs.take i) (R.wb.take i))[j]? = some u → w1.cell? (ad.add j) = some u) := by
    intro ad had j u hu
    cases had
    have := (unhide H1).part 0 i (by omega) (unhide HV) j u (by simpa using hu)
    rw [add_nat]
    simpa using this
  have l1 : Hid ((obCells (m.objs.take i) (R.wb.take i)).length = i * 3) := by
    have hl := (unhide H1).len
    show List.length _ = _
    rw [obCells_length _ _ (by simp [hl])]
    simp; omega
  have n1 : Hid (∀ u ∈ obCells (m.objs.take i) (R.wb.take i), u.oneCell' = true) := obCells_one _ _ (by have hl := (unhide H1).len; simp [hl])
  go_wp2_with (at_builtin; refine stop ?_)
  refine hide (wpList_append_any _ rfl _ _ 81 rfl 89 i0 _ 3 40 Tryd.underlying81 zi hz0 hz1 hz2 rfl (by decide) (.slice none 0 0) 0 [] rfl (World.ownsRow_nil _ _ _ _) (some ⟨g, 0, none⟩) i cap (obCells (m.objs.take i) (R.wb.take i)) rfl (unhide l1) (fun h => by cases h) (unhide L1) (unhide n1) (by unfold maxLen; omega) (by omega) ?_)
  intro v1 w2 ho1 hg1 hl1
  have H2 := hide ((unhide H1).agree fun k hk => hg1.block k ((unhide H1).lt k hk) (fun e => by cases e))
  have fo2 := (unhide H2).cells.2.2.2.1
  rw [unhide HV] at fo2
  have HO1 : Hid (w2.ownsRow 0 89 3 v1 i (obCells (m.objs.take i) (R.wb.take i))) := by
    have := ho1
    simp only [Nat.zero_add, List.nil_append] at this
    exact this
  have HG1 := hide hg1
  have HL1 := hide hl1
  have s2 := hg1.size
  clear ho1 hg1 hl1 fo o1
  have T2 : Hid (∀ ad : Addr, (ad = ⟨g, (i + 1) * 3, none⟩ ∨ m.objs.length ≤ i + 1) → ∀ j u, (obCells (m.objs.drop (i + 1)) (R.wb.drop (i + 1)))[j]? = some u → w2.cell? (ad.add j) = some u) := fun ad had => tail_cells (unhide H2) (unhide HV) (i + 1) ad had
  have l2 : Hid ((obCells (m.objs.drop (i + 1)) (R.wb.drop (i + 1))).length = (m.objs.length - (i + 1)) * 3) := by
    have hl := (unhide H1).len
    show List.length _ = _
    rw [obCells_length _ _ (by simp [hl])]
    simp
  have n2 : Hid (∀ u ∈ obCells (m.objs.drop (i + 1)) (R.wb.drop (i + 1)), u.oneCell' = true) := obCells_one _ _ (by have hl := (unhide H1).len; simp [hl])
  go_wp2_with (at_builtin; refine stop ?_)
  all_goals
    refine hide (wpList_append_any _ rfl _ _ 81 rfl 89 i0 _ 3 40 Tryd.underlying81 zi hz0 hz1 hz2 rfl (by decide) v1 i _ rfl (unhide HO1) _ (m.objs.length - (i + 1)) _ (obCells (m.objs.drop (i + 1)) (R.wb.drop (i + 1))) rfl (unhide l2) (fun h => by cases h) (fun ad had => unhide T2 ad (by cases had; first | exact .inl rfl | exact .inr (by omega))) (unhide n2) (by unfold maxLen; omega) (by omega) ?_)
    intro v2 w3 ho2 hg2 hl2
    obtain ⟨ao', cap', hv', hd1, hd2⟩ := ownsRow_shape ho2
    rw [hv'] at ho2 hl2 ⊢
    clear hv'
    have HF := hide (free_end (unhide HH) i hi hb (unhide HG1) (unhide HL1) ho2 hg2 hl2)
    have b3 : Below w.heap.size w w3 := (free_below hb (unhide HG1) (unhide HL1) hg2)
    have fo3 := ((unhide HH).below b3).cells.2.2.2.1
    rw [unhide HV] at fo3
    have z3 := ((unhide HH).below b3).frozen 3
    clear ho2 hg2 hl2 fo2
    go_wp2
    go_ret
    exact ⟨rfl, unhide HF⟩
end Go.Proofs.YtgegkcjllliifabDoor
