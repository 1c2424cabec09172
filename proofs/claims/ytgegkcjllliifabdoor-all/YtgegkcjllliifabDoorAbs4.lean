/-
  The heap's tables seen as the model's objects: a collection, the counts.
-/
import Derived.Test.YtgegkcjllliifabDoorAbs3
namespace Go.Proofs.YtgegkcjllliifabDoor
open Go.RowKit

theorem keepG_map {α β : Type} (g : α → β) (p : α → Bool) : ∀ l : List α, keepG (l.map g) (l.map p) = (l.filter p).map g
  | [] => rfl
  | x :: r => by
    show (if p x then g x :: keepG (r.map g) (r.map p) else keepG (r.map g) (r.map p)) = _
    rw [keepG_map g p r, List.filter_cons]
    split <;> rfl
theorem T_coll {s : St} {stays : Nat → Bool} (hs : ∀ k, stays k = true → s.beg k = true) : s.T.filter stays = trues stays (s.n * 32) := by
  unfold St.T
  rw [trues_filter, trues_filter, List.filter_filter]
  congr 1
  funext k
  cases c : stays k with
  | false => simp
  | true => simp [hs k c]

theorem isOn_T (s : St) (stays : Nat → Bool) (i : Nat) : isOn (s.T.map stays) i ↔ ∃ k, s.T[i]? = some k ∧ stays k = true := by
  unfold isOn
  rw [List.getD_eq_getElem?_getD, List.getElem?_map]
  cases s.T[i]? with
  | none => simp
  | some k => simp

theorem word_ws {s : St} {k : Nat} {x : Int} (h : x ∈ (obOf s k).ws) : ∃ i, i < (s.size (k / 32)).toNat ∧ x = s.word (k + i) := by
  simp only [obOf, List.mem_map, List.mem_range] at h
  obtain ⟨i, hi, rfl⟩ := h
  exact ⟨i, hi, rfl⟩
theorem ws_word {s : St} {k i : Nat} (hi : i < (s.size (k / 32)).toNat) : s.word (k + i) ∈ (obOf s k).ws := by
  simp only [obOf, List.mem_map, List.mem_range]
  exact ⟨i, hi, rfl⟩

theorem reach_is {s : St} (h : WF s) {stays black : Nat → Bool} (m : Marked s stays black) (kept : Nat) : IsReach (absM s kept) (s.T.map stays) := by
  refine ⟨by simp [absM], fun x hx i hi => ?_, fun i hi ho ha x hx j hj => ?_, fun S hr hc i hi => ?_⟩
  · obtain ⟨k, h1, h2⟩ := find_at h kept hi
    exact (isOn_T s stays i).2 ⟨k, h1, (m.stay k).2 (.root hx h2)⟩
  · obtain ⟨k, h1, h2⟩ := (isOn_T s stays i).1 ho
    obtain ⟨_, e⟩ := obj_at s kept h1
    rw [e] at ha hx
    obtain ⟨q, hq, rfl⟩ := word_ws hx
    obtain ⟨k2, h3, h4⟩ := find_at h kept hj
    exact (isOn_T s stays j).2 ⟨k2, h3, (m.stay k2).2 (.word ((m.stay k).1 h2) ha hq h4)⟩
  · obtain ⟨k, h1, h2⟩ := (isOn_T s stays i).1 hi
    have hk := (m.stay k).1 h2
    clear h2 hi
    induction hk generalizing i with
    | root hx ha => exact hr _ hx i (find_of h kept h1 ha)
    | @word j k q hj ha hq hat ih =>
      obtain ⟨i2, hi2, e2⟩ := List.getElem_of_mem (T_mem h (Reach.beg h hj))
      have g2 : s.T[i2]? = some j := by rw [List.getElem?_eq_getElem hi2, e2]
      obtain ⟨hl, e⟩ := obj_at s kept g2
      exact hc i2 hl (ih i2 g2) (by rw [e]; exact ha) _ (by rw [e]; exact ws_word hq) i (find_of h kept h1 hat)

/-! The black pages. -/
def Dark (m : Mo) (x : Int) (p : Nat) : Prop := m.page x = (p : Int) ∧ m.find x < 0
theorem blacken_get (m : Mo) (x : Int) (bl : List Bool) (p : Nat) (hp : p < bl.length) : (m.blacken x bl).getD p false = true ↔ bl.getD p false = true ∨ Dark m x p := by
  unfold Mo.blacken Dark
  split
  · rename_i c
    rw [List.getD_eq_getElem?_getD, List.getElem?_set]
    by_cases e : (m.page x).toNat = p
    · rw [if_pos e, if_pos (by omega)]
      simp only [Option.getD_some, true_iff]
      exact .inr ⟨by omega, c.2⟩
    · rw [if_neg e, ← List.getD_eq_getElem?_getD]
      constructor
      · exact .inl
      · rintro (h | ⟨h, _⟩)
        · exact h
        · omega
  · rename_i c
    constructor
    · exact .inl
    · rintro (h | ⟨h1, h2⟩)
      · exact h
      · exact absurd ⟨by omega, h2⟩ c
theorem blackWords_get (m : Mo) (p : Nat) : ∀ (ws : List Int) (bl : List Bool), p < bl.length → ((m.blackWords ws bl).getD p false = true ↔ bl.getD p false = true ∨ ∃ x, x ∈ ws ∧ Dark m x p)
  | [], bl, _ => by simp [Mo.blackWords]
  | x :: r, bl, hp => by
    show (m.blackWords r (m.blacken x bl)).getD p false = true ↔ _
    rw [blackWords_get m p r _ (by rw [blacken_length]; exact hp), blacken_get m x bl p hp]
    simp only [List.mem_cons]
    constructor
    · rintro ((h | h) | ⟨y, h1, h2⟩)
      · exact .inl h
      · exact .inr ⟨x, .inl rfl, h⟩
      · exact .inr ⟨y, .inr h1, h2⟩
    · rintro (h | ⟨y, rfl | h1, h2⟩)
      · exact .inl (.inl h)
      · exact .inl (.inr h2)
      · exact .inr ⟨y, h1, h2⟩
theorem blackTo_get (m : Mo) (on : List Bool) (p : Nat) (bl : List Bool) (hp : p < bl.length) : ∀ k, k ≤ m.objs.length → ((m.blackTo on bl k).getD p false = true ↔ bl.getD p false = true ∨ ∃ i o, i < k ∧ m.objs[i]? = some o ∧ isOn on i ∧ o.atomic = false ∧ ∃ x, x ∈ o.ws ∧ Dark m x p)
  | 0, _ => by simp [Mo.blackTo]
  | k + 1, hk => by
    have ih := blackTo_get m on p bl hp k (by omega)
    rw [blackTo_succ m on bl k (by omega)]
    have hg : m.objs[k]? = some m.objs[k] := List.getElem?_eq_getElem (by omega)
    split
    · rename_i c
      simp only [Bool.and_eq_true, Bool.not_eq_true'] at c
      rw [blackWords_get m p _ _ (by rw [blackTo_length]; exact hp), ih]
      constructor
      · rintro ((h | ⟨i, o, h1, h2⟩) | ⟨x, h1, h2⟩)
        · exact .inl h
        · exact .inr ⟨i, o, by omega, h2⟩
        · exact .inr ⟨k, _, by omega, hg, c.1, c.2, x, h1, h2⟩
      · rintro (h | ⟨i, o, h1, h2, h3, h4, x, h5, h6⟩)
        · exact .inl (.inl h)
        · by_cases e : i = k
          · subst e
            rw [hg] at h2
            cases h2
            exact .inr ⟨x, h5, h6⟩
          · exact .inl (.inr ⟨i, o, by omega, h2, h3, h4, x, h5, h6⟩)
    · rename_i c
      rw [ih]
      constructor
      · rintro (h | ⟨i, o, h1, h2⟩)
        · exact .inl h
        · exact .inr ⟨i, o, by omega, h2⟩
      · rintro (h | ⟨i, o, h1, h2, h3, h4, h5⟩)
        · exact .inl h
        · by_cases e : i = k
          · subst e
            rw [hg] at h2
            cases h2
            refine absurd ?_ c
            rw [Bool.and_eq_true]
            exact ⟨h3, by rw [h4]; rfl⟩
          · exact .inr ⟨i, o, by omega, h2, h3, h4, h5⟩

theorem dark_iff {s : St} (h : WF s) (kept : Nat) (x : Int) (p : Nat) : Dark (absM s kept) x p ↔ s.inHeap x ∧ s.at x = none ∧ pgOf x = p := by
  unfold Dark St.inHeap
  rw [find_lt h]
  unfold Mo.page pgOf
  constructor
  · rintro ⟨h1, h2⟩
    split at h1
    · rename_i c
      exact ⟨c, h2, by omega⟩
    · omega
  · rintro ⟨h1, h2, h3⟩
    rw [if_pos (show 1048576 ≤ x ∧ x < 1048576 + 256 * ((absM s kept).pages : Int) from h1)]
    exact ⟨by omega, h2⟩

theorem black_is {s : St} (h : WF s) {stays black : Nat → Bool} (m : Marked s stays black) (kept : Nat) : (List.range s.n).map black = (absM s kept).blackTo (s.T.map stays) ((absM s kept).blackWords s.roots (List.replicate s.n false)) (absM s kept).objs.length := by
  apply List.ext_getElem (by rw [blackTo_length, blackWords_length]; simp)
  intro p h1 h2
  have hp : p < s.n := by simpa using h1
  have e : ((absM s kept).blackTo (s.T.map stays) ((absM s kept).blackWords s.roots (List.replicate s.n false)) (absM s kept).objs.length)[p] = ((absM s kept).blackTo (s.T.map stays) ((absM s kept).blackWords s.roots (List.replicate s.n false)) (absM s kept).objs.length).getD p false := by
    rw [List.getD_eq_getElem?_getD, List.getElem?_eq_getElem h2]; rfl
  rw [e]
  simp only [List.getElem_map, List.getElem_range]
  rw [Bool.eq_iff_iff, m.blk p, blackTo_get _ _ p _ (by rw [blackWords_length]; simpa using hp) _ (Nat.le_refl _), blackWords_get _ p _ _ (by simpa using hp)]
  constructor
  · rintro ⟨x, hx, h3, h4, h5⟩
    have hd := (dark_iff h kept x p).2 ⟨h3, h4, h5⟩
    rcases hx with hx | ⟨j, q, g1, g2, g3, rfl⟩
    · exact .inl (.inr ⟨x, hx, hd⟩)
    · obtain ⟨i2, hi2, e2⟩ := List.getElem_of_mem (T_mem h (Reach.beg h g1))
      have gi : s.T[i2]? = some j := by rw [List.getElem?_eq_getElem hi2, e2]
      refine .inr ⟨i2, obOf s j, by simpa [absM] using hi2, by simp [absM, gi], (isOn_T s stays i2).2 ⟨j, gi, (m.stay j).2 g1⟩, g2, _, ws_word g3, hd⟩
  · rintro ((h3 | ⟨x, hx, hd⟩) | ⟨i, o, h3, h4, h5, h6, x, h7, hd⟩)
    · have : (List.replicate s.n false)[p]? = some false := by simp [hp]
      rw [List.getD_eq_getElem?_getD, this] at h3
      cases h3
    · obtain ⟨a, b, c⟩ := (dark_iff h kept x p).1 hd
      exact ⟨x, .inl hx, a, b, c⟩
    · obtain ⟨a, b, c⟩ := (dark_iff h kept x p).1 hd
      obtain ⟨k, g1, g2⟩ := (isOn_T s stays i).1 h5
      simp only [absM, List.getElem?_map, g1, Option.map_some, Option.some.injEq] at h4
      subst h4
      obtain ⟨q, hq, rfl⟩ := word_ws h7
      exact ⟨_, .inr ⟨k, q, (m.stay k).1 g2, h6, hq, rfl⟩, a, b, c⟩

theorem absM_coll {s : St} (h : WF s) {stays black : Nat → Bool} (m : Marked s stays black) (ag kept : Nat) : absM (s.collected stays black ag) (cntF stays (s.n * 32)) = (absM s kept).collect (s.T.map stays) := by
  have hs : ∀ k, stays k = true → s.beg k = true := fun k hk => Reach.beg h ((m.stay k).1 hk)
  have hk : keepG (absM s kept).objs (s.T.map stays) = (trues stays (s.n * 32)).map (obOf s) := by
    rw [← T_coll hs]
    exact keepG_map _ _ _
  unfold Mo.collect
  rw [hk, List.length_map, trues_length]
  have hb := black_is h m kept
  show (⟨s.n, s.room, s.trig, (trues stays (s.n * 32)).map (obOf s), s.roots, (List.range s.n).map black, 0, s.colls + 1, cntF stays (s.n * 32)⟩ : Mo) = _
  rw [hb]
  rfl

theorem absM_swept {s t : St} (h : WF s) (l : SweptTo s t) (kept : Nat) : absM t kept = absM s kept := by
  have ho : t.T.map (obOf t) = s.T.map (obOf s) := by
    have e : t.T = s.T := by unfold St.T; rw [l.n, l.beg]
    rw [e]
    refine List.map_congr_left fun k hk => ?_
    obtain ⟨o1, o2⟩ := l.size h (T_beg hk).1
    exact obOf_congr o1 o2 fun i _ => by rw [l.word]
  unfold absM
  rw [ho, l.n, l.room, l.trig, l.roots, l.blk, l.since, l.colls]

/-! The counts. -/
theorem wordsOf_append : ∀ a b : List Ob, wordsOf (a ++ b) = wordsOf a + wordsOf b
  | [], b => by simp [wordsOf]
  | o :: r, b => by simp only [List.cons_append, wordsOf, wordsOf_append r b]; omega
theorem sumW_words {s : St} (h : WF s) : ∀ k, sumW s k = (wordsOf ((trues s.beg k).map (obOf s)) : Int)
  | 0 => rfl
  | k + 1 => by
    unfold sumW trues
    rw [sumW_words h k, List.map_append, wordsOf_append]
    cases hb : s.beg k with
    | false => simp [wordsOf]
    | true =>
      have := (h.bg k hb).2.1
      simp [wordsOf, obOf_len]
      omega
theorem busyTo_cnt {s : St} (h : WF s) (kept : Nat) : ∀ k, k ≤ s.n → (absM s kept).busyTo k = cntF s.held k
  | 0, _ => rfl
  | k + 1, hk => by
    unfold Mo.busyTo cntF
    rw [busyTo_cnt h kept k (by omega)]
    rcases on_cases h kept (show k < s.n by omega) with ⟨e1, e2⟩ | ⟨e1, e2, _⟩
    · rw [e1, e2]; rfl
    · rw [e1, if_pos e2]; rfl
theorem cntF_imp {f g : Nat → Bool} : ∀ {n : Nat}, (∀ k, k < n → f k = true → g k = true) → cntF f n ≤ cntF g n
  | 0, _ => Nat.le_refl _
  | n + 1, h => by
    unfold cntF
    have := cntF_imp (n := n) fun k hk => h k (by omega)
    cases c : f n with
    | false => simp; omega
    | true => rw [h n (by omega) c]; simp; omega
theorem cntF_sub {f g u : Nat → Bool} : ∀ {n : Nat}, (∀ k, k < n → g k = true → f k = true ∨ u k = true) → cntF g n ≤ cntF f n + cntF u n
  | 0, _ => Nat.zero_le _
  | n + 1, h => by
    unfold cntF
    have := cntF_sub (n := n) fun k hk => h k (by omega)
    cases c : g n with
    | false => simp; omega
    | true =>
      rcases h n (by omega) c with e | e
      · rw [e]; simp; omega
      · rw [e]; simp; omega
theorem held_pos {s : St} (h : WF s) {p : Nat} (hp : p < s.n) (hh : s.held p = true) : 0 < s.size p := by
  obtain ⟨k, hb, h1, h2⟩ := (held_iff h hp).1 hh
  rw [(on_page h hb h1 h2).1]
  exact (h.bg k hb).2.1
theorem absM_cok {s : St} (h : WF s) (kept : Nat) (h1 : s.again ≤ kept) (h2 : 0 < s.again → s.room + 1 ≤ kept) : CountOk (absM s kept) ⟨s.again, s.used, s.unsw⟩ := by
  have eb : (absM s kept).busy = cntF s.held s.n := busyTo_cnt h kept s.n (Nat.le_refl _)
  have u1 : cntF s.held s.n ≤ s.used := cntF_imp fun p hp hh => by have := held_pos h hp hh; simp; omega
  have u2 : s.used ≤ s.n := cntF_le _ _
  have u3 : s.unsw ≤ s.used := cntF_imp fun p hp hh => by have := h.uz p hp hh; simp; omega
  have u4 : s.used ≤ cntF s.held s.n + s.unsw := cntF_sub fun p hp hh => by
    have z := h.z0 p hp
    have : s.size p ≠ 0 := by simpa using hh
    cases c : s.uns p with
    | true => exact .inr rfl
    | false => exact .inl (h.un p hp (by omega) c)
  refine ⟨by simp, by show (s.again : Int) ≤ (kept : Int) + 1; omega, fun hk => ?_, ?_, ?_, by simp, ?_, ?_⟩
  · have hk' : kept ≤ s.room := hk
    show (s.again : Int) = 0
    by_cases c : 0 < s.again
    · have := h2 c; omega
    · omega
  · rw [eb]; show (cntF s.held s.n : Int) ≤ (s.used : Int); omega
  · show (s.used : Int) ≤ (s.n : Int); omega
  · show (s.unsw : Int) ≤ (s.used : Int); omega
  · rw [eb]; show (s.used : Int) - (cntF s.held s.n : Int) ≤ (s.unsw : Int); omega
end Go.Proofs.YtgegkcjllliifabDoor
