/-
  The walk of the reference heap's Reach: what roots lead to.
-/
import Derived.Test.YtgegkcjllliifabDoorRefNames
import Derived.Deep.LoopGhost
namespace Go.Proofs.YtgegkcjllliifabDoor
open Go.RowKit

def Rooted (m : Mo) (S : Nat → Prop) : Prop := ∀ x, x ∈ m.roots → ∀ i : Nat, m.find x = i → S i
def Closed (m : Mo) (S : Nat → Prop) : Prop := ∀ i (hi : i < m.objs.length), S i → (m.objs[i]).atomic = false → ∀ x, x ∈ (m.objs[i]).ws → ∀ j : Nat, m.find x = j → S j
def isOn (on : List Bool) (i : Nat) : Prop := on.getD i false = true
def Sound (m : Mo) (on : List Bool) : Prop := ∀ S, Rooted m S → Closed m S → ∀ i, isOn on i → S i
/-- Just what roots lead to is marked. -/
structure IsReach (m : Mo) (on : List Bool) : Prop where
  len : on.length = m.objs.length
  root : Rooted m (isOn on)
  step : Closed m (isOn on)
  least : Sound m on

def cnt : List Bool → Nat
  | [] => 0
  | b :: r => (if b then 1 else 0) + cnt r
theorem cntB_le (l : List Bool) : cnt l ≤ l.length := by
  induction l with
  | nil => exact Nat.le_refl _
  | cons b r ih => simp only [cnt, List.length_cons]; split <;> omega
theorem cnt_set (l : List Bool) (j : Nat) (hj : j < l.length) (h : l.getD j false = false) : cnt (l.set j true) = cnt l + 1 := by
  induction l generalizing j with
  | nil => simp at hj
  | cons b r ih =>
    cases j with
    | zero =>
      obtain rfl : b = false := by simpa using h
      simp [cnt]; omega
    | succ j =>
      have := ih j (by simpa using hj) (by simpa using h)
      simp only [List.set_cons_succ, cnt, this]; omega
theorem isOn_set (l : List Bool) (j i : Nat) (hj : j < l.length) : isOn (l.set j true) i ↔ isOn l i ∨ i = j := by
  unfold isOn
  simp only [List.getD_eq_getElem?_getD, List.getElem?_set]
  by_cases c : j = i
  · subst c; simp [hj]
  · simp only [if_neg c]
    exact ⟨.inl, fun h => h.elim id fun e => absurd e.symm c⟩
theorem isOn_set_all (l : List Bool) (j i : Nat) (h : isOn l i) : isOn (l.set j true) i := by
  by_cases hj : j < l.length
  · exact (isOn_set l j i hj).2 (.inl h)
  · rw [List.set_eq_of_length_le (by omega)]; exact h
theorem isOn_lt {l : List Bool} {i : Nat} (h : isOn l i) : i < l.length := by
  unfold isOn at h
  by_cases c : i < l.length
  · exact c
  · rw [List.getD_eq_getElem?_getD, List.getElem?_eq_none (by omega)] at h; cases h

theorem Sound.mark {m : Mo} {on : List Bool} (h : Sound m on) (j : Nat) (hj : j < on.length) (hS : ∀ S, Rooted m S → Closed m S → S j) : Sound m (on.set j true) := by
  intro S h1 h2 i hi
  rcases (isOn_set on j i hj).1 hi with e | rfl
  · exact h S h1 h2 i e
  · exact hS S h1 h2
theorem Sound.none (m : Mo) (n : Nat) : Sound m (List.replicate n false) := by
  intro S _ _ i hi
  unfold isOn at hi
  simp only [List.getD_eq_getElem?_getD, List.getElem?_replicate] at hi
  split at hi <;> cases hi

/-- What the first k roots lie in is marked. -/
def RootTo (m : Mo) (on : List Bool) (k : Nat) : Prop := ∀ q (hq : q < m.roots.length), q < k → ∀ i : Nat, m.find (m.roots[q]) = i → isOn on i
theorem RootTo.rooted {m : Mo} {on : List Bool} (h : RootTo m on m.roots.length) : Rooted m (isOn on) := by
  intro x hx i hi
  obtain ⟨q, hq, rfl⟩ := List.getElem_of_mem hx
  exact h q hq hq i hi
theorem Rooted.mark {m : Mo} {on : List Bool} (h : Rooted m (isOn on)) (j : Nat) : Rooted m (isOn (on.set j true)) := fun x hx i hi => isOn_set_all _ _ _ (h x hx i hi)

/-- Object i, if it is marked and not atomic, leads to what is marked: its first q words. -/
def WordTo (m : Mo) (on : List Bool) (i q : Nat) : Prop := ∀ hi : i < m.objs.length, isOn on i → (m.objs[i]).atomic = false → ∀ p (hp : p < (m.objs[i]).ws.length), p < q → ∀ j : Nat, m.find ((m.objs[i]).ws[p]) = j → isOn on j
def ObTo (m : Mo) (on : List Bool) (k : Nat) : Prop := ∀ i, i < k → ∀ q, WordTo m on i q
theorem ObTo.closed {m : Mo} {on : List Bool} (h : ObTo m on m.objs.length) : Closed m (isOn on) := by
  intro i hi ho ha x hx j hj
  obtain ⟨p, hp, rfl⟩ := List.getElem_of_mem hx
  exact h i hi (m.objs[i]).ws.length hi ho ha p hp hp j hj

set_option maxRecDepth 10000 in
set_option maxHeartbeats 4000000 in
set_option maxRecDepth 100000 in
theorem reach_any (R : RL) (m : Mo) (w : World) (h : RefIs w R m) (bd : m.bd) :
    Calls Tryd.prog 90 #[.pointer (some ⟨R.r, 0, none⟩)] w fun e w' => ∃ on : List Bool, IsReach m on ∧ e = .returned (.slice (some ⟨w.heap.size, 0, none⟩) m.objs.length m.objs.length) ∧ BoolsAt w' w.heap.size on ∧ Below w.heap.size w w' := by
  have bo := bd.objs
  have br := bd.roots
  have BD := hide bd
  have mk := mkBools m.objs.length (by omega)
  have C : Hid (∀ w1 x, Below w.heap.size w w1 → Calls Tryd.prog 69 #[.pointer (some ⟨R.r, 0, none⟩), .int .i64 x] w1 fun e w' => e = .returned (.int .i64 (m.find x)) ∧ Below w1.heap.size w1 w') :=
    fun w1 x hb => find_any R m x w1 (h.below hb) bd
  have HH := hide h
  have fo := h.cells.2.2.2.1
  obtain ⟨ao, cap, hv, hc1, hc2⟩ := ownsRow_shape h.ho
  rw [hv] at fo
  clear h bd hv
  go_enter Tryd.func90, Tryd.ntmps90
  go_wp2
  clear fo hc1 hc2 mk
  go_loopw [4] (fun i wr => ∃ (k : Nat) (on : List Bool), k ≤ m.roots.length ∧ i = .int .i64 k ∧ Below w.heap.size w wr ∧ w.heap.size < wr.heap.size ∧ Hid (BoolsAt wr w.heap.size on) ∧ Hid (on.length = m.objs.length) ∧ Hid (Sound m on) ∧ Hid (RootTo m on k)) (fun i _ => m.roots.length - (intOf i).toNat)
  case atStart => exact ⟨0, List.replicate m.objs.length false, by omega, rfl, (Below.refl _ _).alloc (Nat.le_refl _) _, by simp, hide (BoolsAt.made w _), hide (by simp), hide (Sound.none m _), fun q _ hq => absurd hq (by omega)⟩
  case round =>
    obtain ⟨k, on, hk, rfl, hB, hsz, HB, HL, HS, HR⟩ := hrel
    have H1 := hide ((unhide HH).below hB)
    by_cases hlt : k < m.roots.length
    · obtain ⟨g, cap', hv, hg, hd1, hd2, c0⟩ := (unhide H1).root k hlt
      have fr := (unhide H1).cells.2.2.2.2.1
      rw [hv] at fr
      unfold maxLen at hd2
      clear hv
      obtain ⟨x, hx⟩ : ∃ x, m.roots[k] = x := ⟨_, rfl⟩
      rw [hx] at c0
      have C1 := hide (unhide C wr x hB)
      rcases find_cases m x with hf | ⟨i, hf, hi, _, _⟩
      · rw [hf] at C1
        have HR' : Hid (RootTo m on (k + 1)) := by
          intro q hq hq2 i hi
          by_cases e : q = k
          · subst e; rw [hx, hf] at hi; omega
          · exact HR.out q hq (by omega) i hi
        clear hx hf
        go_wp2_with (go_at_call 69; refine (unhide C1).mono ?_; rintro e w1 ⟨rfl, hb1⟩)
        go_roundw
        case rel => first | exact ⟨k + 1, on, by omega, by go_num, hB.trans (hb1.mono hB.size), by have := hb1.size; omega, hide ((unhide HB).below hb1), HL, HS, HR'⟩ | ((repeat apply Exists.intro); exact ⟨⟨k + 1, on, by omega, by go_num, hB.trans (hb1.mono hB.size), by have := hb1.size; omega, hide ((unhide HB).below hb1), HL, HS, HR'⟩, rfl⟩)
        case measure => simp [intOf]; omega
      · rw [hf] at C1
        have hil : i < on.length := by rw [unhide HL]; exact hi
        have HR' : Hid (RootTo m (on.set i true) (k + 1)) := by
          intro q hq hq2 j hj
          by_cases e : q = k
          · subst e; rw [hx, hf] at hj
            obtain rfl : i = j := by omega
            exact (isOn_set on i i hil).2 (.inr rfl)
          · exact isOn_set_all _ _ _ (HR.out q hq (by omega) j hj)
        have HS' : Hid (Sound m (on.set i true)) := (unhide HS).mark i hil fun S h1 _ => h1 x (by rw [← hx]; exact List.getElem_mem hlt) i hf
        clear hx hf
        go_wp2_with (go_at_call 69; refine (unhide C1).mono ?_; rintro e w1 ⟨rfl, hb1⟩; have cb := ((unhide HB).below hb1).cell i hil; have zb := ((unhide HB).below hb1).frozen i)
        go_roundw
        case rel => first | exact ⟨k + 1, on.set i true, by omega, by go_num, (hB.trans (hb1.mono hB.size)).setCell (Nat.le_refl _) _, by have := hb1.size; simp; omega, hide (((unhide HB).below hb1).set i true), hide (by rw [List.length_set]; exact unhide HL), HS', HR'⟩ | ((repeat apply Exists.intro); exact ⟨⟨k + 1, on.set i true, by omega, by go_num, (hB.trans (hb1.mono hB.size)).setCell (Nat.le_refl _) _, by have := hb1.size; simp; omega, hide (((unhide HB).below hb1).set i true), hide (by rw [List.length_set]; exact unhide HL), HS', HR'⟩, rfl⟩)
        case measure => simp [intOf]; omega
    · obtain rfl : k = m.roots.length := by omega
      have HRR := hide ((unhide HR).rooted)
      obtain ⟨ao', cap', hv, hd1, hd2⟩ := ownsRow_shape (unhide H1).hrt
      have fr := (unhide H1).cells.2.2.2.2.1
      rw [hv] at fr
      clear hv HR
      go_wp2
      clear fr hd1 hd2
      go_loopg [6] (2 * m.objs.length + 2) (fun gk mo wq => ∃ (b : Bool) (on : List Bool), mo = .bool b ∧ Below w.heap.size w wq ∧ w.heap.size < wq.heap.size ∧ Hid (BoolsAt wq w.heap.size on) ∧ Hid (on.length = m.objs.length) ∧ Hid (Sound m on) ∧ Hid (Rooted m (isOn on)) ∧ Hid (b = false → Closed m (isOn on)) ∧ Hid (2 * (m.objs.length - cnt on) + (if b then 1 else 0) ≤ gk))
      case atStart => exact ⟨true, on, rfl, hB, hsz, HB, HL, HS, HRR, hide (fun e => by cases e), hide (by simp; omega)⟩
      case round =>
        clear HB HL HS HRR hB hsz H1
        obtain ⟨b, on, rfl, hB, hsz, HB, HL, HS, HRR, HC, HG⟩ := hrel
        cases b
        · have HC2 : Hid (Closed m (isOn on)) := unhide HC rfl
          clear HC
          go_wp2
          go_ret
          exact ⟨on, ⟨unhide HL, unhide HRR, unhide HC2, unhide HS⟩, rfl, unhide HB, hB⟩
        · clear HC
          have HG' : Hid (2 * (m.objs.length - cnt on) + 1 ≤ gk) := hide (by have := unhide HG; simpa using this)
          clear HG
          go_wp2
          go_loopw [6, 7] (fun mo i wr => ∃ (k : Nat) (b' : Bool) (on' : List Bool), k ≤ m.objs.length ∧ i = .int .i64 k ∧ mo = .bool b' ∧ Below w.heap.size w wr ∧ w.heap.size < wr.heap.size ∧ Hid (BoolsAt wr w.heap.size on') ∧ Hid (on'.length = m.objs.length) ∧ Hid (Sound m on') ∧ Hid (Rooted m (isOn on')) ∧ Hid (b' = true → cnt on < cnt on') ∧ Hid (b' = false → on' = on ∧ ObTo m on' k)) (fun _ i _ => m.objs.length - (intOf i).toNat)
          case atStart => exact ⟨0, false, on, by omega, rfl, rfl, hB, hsz, HB, HL, HS, HRR, hide (fun e => by cases e), hide (fun _ => ⟨rfl, fun i hi => absurd hi (by omega)⟩)⟩
          case round =>
            clear HB HL HS HRR hB hsz
            obtain ⟨k, b', on', hk, rfl, rfl, hB, hsz, HB, HL, HS, HRR, HT, HF⟩ := hrel
            have H1 := hide ((unhide HH).below hB)
            by_cases hlt : k < m.objs.length
            · obtain ⟨g, cap', hv, hg, hd1, hd2, o1, o2, o3⟩ := (unhide H1).ob k hlt
              have fo := (unhide H1).cells.2.2.2.1
              rw [hv] at fo
              unfold maxLen at hd2
              have cb := (unhide HB).cell k (by rw [unhide HL]; exact hlt)
              obtain ⟨c, hc⟩ : ∃ c, on'.getD k false = c := ⟨_, rfl⟩
              rw [hc] at cb
              have hcH := hide hc
              clear hc
              cases c
              · have HF' : Hid (b' = false → on' = on ∧ ObTo m on' (k + 1)) := by
                  intro e
                  obtain ⟨e1, e2⟩ := unhide HF e
                  refine ⟨e1, fun i hi q => ?_⟩
                  by_cases e3 : i = k
                  · subst e3; intro _ ho; exact absurd ho (by unfold isOn; rw [unhide hcH]; simp)
                  · exact e2 i (by omega) q
                clear hv
                go_wp2
                go_roundw
                case rel => first | exact ⟨k + 1, b', on', by omega, by go_num, rfl, hB, hsz, HB, HL, HS, HRR, HT, HF'⟩ | ((repeat apply Exists.intro); exact ⟨⟨k + 1, b', on', by omega, by go_num, rfl, hB, hsz, HB, HL, HS, HRR, HT, HF'⟩, rfl⟩)
                case measure => simp [intOf]; omega
              · have HON : Hid (isOn on' k) := unhide hcH
                obtain ⟨A, hA⟩ : ∃ A, (m.objs[k]).atomic = A := ⟨_, rfl⟩
                rw [hA] at o2
                have hAH := hide hA
                clear hA
                cases A
                · have bw := ((unhide BD).pos k hlt).2.2
                  clear hv
                  go_wp2
                  clear fo o1 o2 o3 cb hg hd1 hd2
                  go_loopw [6, 8] (fun mo j wr => ∃ (q : Nat) (b2 : Bool) (on2 : List Bool), q ≤ (m.objs[k]).ws.length ∧ j = .int .i64 q ∧ mo = .bool b2 ∧ Below w.heap.size w wr ∧ w.heap.size < wr.heap.size ∧ Hid (BoolsAt wr w.heap.size on2) ∧ Hid (on2.length = m.objs.length) ∧ Hid (Sound m on2) ∧ Hid (Rooted m (isOn on2)) ∧ Hid (isOn on2 k) ∧ Hid (b2 = true → cnt on < cnt on2) ∧ Hid (b2 = false → on2 = on ∧ ObTo m on2 k ∧ WordTo m on2 k q)) (fun _ j _ => (m.objs[k]).ws.length - (intOf j).toNat)
                  case atStart => exact ⟨0, b', on', by omega, rfl, rfl, hB, hsz, HB, HL, HS, HRR, HON, HT, hide (fun e => ⟨(unhide HF e).1, (unhide HF e).2, fun _ _ _ p _ hp => absurd hp (by omega)⟩)⟩
                  case round =>
                    clear HB HL HS HRR HON HT HF hB hsz H1
                    obtain ⟨q, b2, on2, hq, rfl, rfl, hB, hsz, HB, HL, HS, HRR, HON, HT, HF⟩ := hrel
                    have H1 := hide ((unhide HH).below hB)
                    obtain ⟨g, cap', hv, hg, hd1, hd2, o1, o2, o3⟩ := (unhide H1).ob k hlt
                    have fo := (unhide H1).cells.2.2.2.1
                    rw [hv] at fo
                    unfold maxLen at hd2
                    clear hv
                    by_cases hlt2 : q < (m.objs[k]).ws.length
                    · have cw := (unhide H1).word k q hlt hlt2
                      obtain ⟨x, hx⟩ : ∃ x, (m.objs[k]).ws[q] = x := ⟨_, rfl⟩
                      rw [hx] at cw
                      have C1 := hide (unhide C wr x hB)
                      have HX := hide hx
                      clear hx
                      rcases find_cases m x with hf | ⟨i, hf, hi, _, _⟩
                      · rw [hf] at C1
                        have HF' : Hid (b2 = false → on2 = on ∧ ObTo m on2 k ∧ WordTo m on2 k (q + 1)) := by
                          intro e
                          obtain ⟨e1, e2, e3⟩ := unhide HF e
                          refine ⟨e1, e2, fun hi ho ha p hp hp2 j hj => ?_⟩
                          by_cases e4 : p = q
                          · subst e4; rw [unhide HX, hf] at hj; omega
                          · exact e3 hi ho ha p hp (by omega) j hj
                        clear hf
                        go_wp2_with (go_at_call 69; refine (unhide C1).mono ?_; rintro e w1 ⟨rfl, hb1⟩)
                        go_roundw
                        case rel => first | exact ⟨q + 1, b2, on2, by omega, by go_num, rfl, hB.trans (hb1.mono hB.size), by have := hb1.size; omega, hide ((unhide HB).below hb1), HL, HS, HRR, HON, HT, HF'⟩ | ((repeat apply Exists.intro); exact ⟨⟨q + 1, b2, on2, by omega, by go_num, rfl, hB.trans (hb1.mono hB.size), by have := hb1.size; omega, hide ((unhide HB).below hb1), HL, HS, HRR, HON, HT, HF'⟩, rfl⟩)
                        case measure => simp [intOf]; omega
                      · rw [hf] at C1
                        have hil : i < on2.length := by rw [unhide HL]; exact hi
                        obtain ⟨c2, hc2⟩ : ∃ c2, on2.getD i false = c2 := ⟨_, rfl⟩
                        have hc2H := hide hc2
                        clear hc2
                        cases c2
                        · have HS' : Hid (Sound m (on2.set i true)) := (unhide HS).mark i hil fun S h1 h2 => h2 k hlt (unhide HS S h1 h2 k (unhide HON)) (unhide hAH) x (by rw [← unhide HX]; exact List.getElem_mem hlt2) i hf
                          have HT' : Hid (cnt on < cnt (on2.set i true)) := by
                            show _ < _
                            rw [cnt_set on2 i hil (unhide hc2H)]
                            cases b2
                            · rw [(unhide HF rfl).1]; omega
                            · have := unhide HT rfl; omega
                          clear hf
                          go_wp2_with (go_at_call 69; refine (unhide C1).mono ?_; rintro e w1 ⟨rfl, hb1⟩; have cb := ((unhide HB).below hb1).cell i hil; rw [unhide hc2H] at cb; have zb := ((unhide HB).below hb1).frozen i)
                          go_roundw
                          case rel => first | exact ⟨q + 1, true, on2.set i true, by omega, by go_num, rfl, (hB.trans (hb1.mono hB.size)).setCell (Nat.le_refl _) _, by have := hb1.size; simp; omega, hide (((unhide HB).below hb1).set i true), hide (by rw [List.length_set]; exact unhide HL), HS', (unhide HRR).mark i, isOn_set_all _ _ _ (unhide HON), hide (fun _ => unhide HT'), hide (fun e => by cases e)⟩ | ((repeat apply Exists.intro); exact ⟨⟨q + 1, true, on2.set i true, by omega, by go_num, rfl, (hB.trans (hb1.mono hB.size)).setCell (Nat.le_refl _) _, by have := hb1.size; simp; omega, hide (((unhide HB).below hb1).set i true), hide (by rw [List.length_set]; exact unhide HL), HS', (unhide HRR).mark i, isOn_set_all _ _ _ (unhide HON), hide (fun _ => unhide HT'), hide (fun e => by cases e)⟩, rfl⟩)
                          case measure => simp [intOf]; omega
                        · have HF' : Hid (b2 = false → on2 = on ∧ ObTo m on2 k ∧ WordTo m on2 k (q + 1)) := by
                            intro e
                            obtain ⟨e1, e2, e3⟩ := unhide HF e
                            refine ⟨e1, e2, fun hi ho ha p hp hp2 j hj => ?_⟩
                            by_cases e4 : p = q
                            · subst e4; rw [unhide HX, hf] at hj
                              obtain rfl : i = j := by omega
                              exact unhide hc2H
                            · exact e3 hi ho ha p hp (by omega) j hj
                          clear hf
                          go_wp2_with (go_at_call 69; refine (unhide C1).mono ?_; rintro e w1 ⟨rfl, hb1⟩; have cb := ((unhide HB).below hb1).cell i hil; rw [unhide hc2H] at cb)
                          go_roundw
                          case rel => first | exact ⟨q + 1, b2, on2, by omega, by go_num, rfl, hB.trans (hb1.mono hB.size), by have := hb1.size; omega, hide ((unhide HB).below hb1), HL, HS, HRR, HON, HT, HF'⟩ | ((repeat apply Exists.intro); exact ⟨⟨q + 1, b2, on2, by omega, by go_num, rfl, hB.trans (hb1.mono hB.size), by have := hb1.size; omega, hide ((unhide HB).below hb1), HL, HS, HRR, HON, HT, HF'⟩, rfl⟩)
                          case measure => simp [intOf]; omega
                    · obtain rfl : q = (m.objs[k]).ws.length := by omega
                      have HF' : Hid (b2 = false → on2 = on ∧ ObTo m on2 (k + 1)) := by
                        intro e
                        obtain ⟨e1, e2, e3⟩ := unhide HF e
                        refine ⟨e1, fun i hi q => ?_⟩
                        by_cases e4 : i = k
                        · subst e4; exact fun hi ho ha p hp _ j hj => e3 hi ho ha p hp hp j hj
                        · exact e2 i (by omega) q
                      go_wp2
                      go_roundw
                      case rel => first | exact ⟨k + 1, b2, on2, by omega, by go_num, rfl, hB, hsz, HB, HL, HS, HRR, HT, HF'⟩ | ((repeat apply Exists.intro); exact ⟨⟨k + 1, b2, on2, by omega, by go_num, rfl, hB, hsz, HB, HL, HS, HRR, HT, HF'⟩, rfl⟩)
                      case measure => simp [intOf]; omega
                · have HF' : Hid (b' = false → on' = on ∧ ObTo m on' (k + 1)) := by
                    intro e
                    obtain ⟨e1, e2⟩ := unhide HF e
                    refine ⟨e1, fun i hi q => ?_⟩
                    by_cases e3 : i = k
                    · subst e3; intro _ _ ha; rw [unhide hAH] at ha; cases ha
                    · exact e2 i (by omega) q
                  clear hv
                  go_wp2
                  go_roundw
                  case rel => first | exact ⟨k + 1, b', on', by omega, by go_num, rfl, hB, hsz, HB, HL, HS, HRR, HT, HF'⟩ | ((repeat apply Exists.intro); exact ⟨⟨k + 1, b', on', by omega, by go_num, rfl, hB, hsz, HB, HL, HS, HRR, HT, HF'⟩, rfl⟩)
                  case measure => simp [intOf]; omega
            · obtain rfl : k = m.objs.length := by omega
              obtain ⟨ao', cap', hv, hd1, hd2⟩ := ownsRow_shape (unhide H1).ho
              have fo := (unhide H1).cells.2.2.2.1
              rw [hv] at fo
              have hcl := cntB_le on'
              rw [unhide HL] at hcl
              clear hv
              cases b'
              · have HC' : Hid (Closed m (isOn on')) := (unhide HF rfl).2.closed
                have HG2 : Hid (2 * (m.objs.length - cnt on') + 0 < gk) := by
                  have := unhide HG'
                  rw [(unhide HF rfl).1]
                  show _ < _
                  omega
                go_wp2
                go_roundg (2 * (m.objs.length - cnt on') + 0)
                case measure => exact unhide HG2
                case rel => exact ⟨false, on', rfl, hB, hsz, HB, HL, HS, HRR, hide (fun _ => unhide HC'), hide (by simp)⟩
              · have HG2 : Hid (2 * (m.objs.length - cnt on') + 1 < gk) := by
                  have := unhide HG'
                  have h3 := unhide HT rfl
                  show _ < _
                  omega
                go_wp2
                go_roundg (2 * (m.objs.length - cnt on') + 1)
                case measure => exact unhide HG2
                case rel => exact ⟨true, on', rfl, hB, hsz, HB, HL, HS, HRR, hide (fun e => by cases e), hide (by simp)⟩
end Go.Proofs.YtgegkcjllliifabDoor
