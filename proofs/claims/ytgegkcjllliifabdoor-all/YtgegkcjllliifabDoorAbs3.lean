/-
  The heap's tables seen as the model's objects: a new object, one dropped, a word stored, a collection.
-/
import Derived.Test.YtgegkcjllliifabDoorAbs2
namespace Go.Proofs.YtgegkcjllliifabDoor
open Go.RowKit

def tB (f : Nat → Bool) (k : Nat) : Nat → List Nat
  | 0 => []
  | d + 1 => tB f k d ++ (if f (k + 1 + d) then [k + 1 + d] else [])
theorem trues_cut (f : Nat → Bool) (k : Nat) : ∀ d, trues f (k + 1 + d) = trues f k ++ ((if f k then [k] else []) ++ tB f k d)
  | 0 => by simp [trues, tB]
  | d + 1 => by
    show trues f (k + 1 + d) ++ _ = _
    rw [trues_cut f k d]
    simp [tB]
theorem tB_gt (f : Nat → Bool) (k : Nat) : ∀ d j, j ∈ tB f k d → k < j ∧ f j = true
  | 0, j, h => absurd h (by simp [tB])
  | d + 1, j, h => by
    rcases List.mem_append.1 h with h | h
    · exact tB_gt f k d j h
    · split at h
      · rename_i c
        have := List.mem_singleton.1 h
        subst this
        exact ⟨by omega, c⟩
      · cases h
theorem tB_congr {f g : Nat → Bool} {k : Nat} (h : ∀ j, k < j → f j = g j) : ∀ d, tB f k d = tB g k d
  | 0 => rfl
  | d + 1 => by unfold tB; rw [tB_congr h d, h (k + 1 + d) (by omega)]
theorem trues_congr {f g : Nat → Bool} : ∀ {n : Nat}, (∀ j, j < n → f j = g j) → trues f n = trues g n
  | 0, _ => rfl
  | n + 1, h => by unfold trues; rw [trues_congr fun j hj => h j (by omega), h n (by omega)]
theorem upd_ne {α : Type} (f : Nat → α) {k j : Nat} (v : α) (h : j ≠ k) : upd f k v j = f j := if_neg h

theorem lead_app (a : Int) (B : List Ob) (hB : ∀ o, o ∈ B → ¬ o.pos < a) : ∀ A : List Ob, (∀ o, o ∈ A → o.pos < a) → lead a (A ++ B) = A.length
  | [], _ => by
    cases B with
    | nil => rfl
    | cons o r => exact if_neg (hB o List.mem_cons_self)
  | o :: r, h => by
    show lead a (o :: (r ++ B)) = _
    unfold lead
    rw [if_pos (h o List.mem_cons_self), lead_app a B hB r fun q hq => h q (List.mem_cons_of_mem _ hq)]
    rfl

theorem obOf_congr {s t : St} {k : Nat} (h1 : t.size (k / 32) = s.size (k / 32)) (h2 : t.atom (k / 32) = s.atom (k / 32)) (h3 : ∀ i, i < (s.size (k / 32)).toNat → t.word (k + i) = s.word (k + i)) : obOf t k = obOf s k := by
  unfold obOf
  rw [h1, h2]
  congr 1
  exact List.map_congr_left fun i hi => h3 i (by simpa using hi)

theorem absM_lay {s t : St} {k sz : Nat} {at' : Bool} (l : LaidTo s k sz at' t) (z1 : 1 ≤ sz) (kept : Nat) : absM t kept = (absM s kept).lay (adr k) sz at' := by
  have hlt := l.lt
  obtain ⟨e1, e2⟩ := l.sizeNew z1
  have old : ∀ j, s.beg j = true → obOf t j = obOf s j := by
    intro j hj
    obtain ⟨o1, o2⟩ := l.old j hj
    refine obOf_congr o1 o2 fun i hi => ?_
    rw [l.word]
    dsimp only
    rw [if_neg]
    rintro ⟨c1, c2⟩
    have hjt : t.beg j = true := by rw [l.beg]; unfold upd; split
                                    · rfl
                                    · exact hj
    have a1 := at_adr l.wf l.begNew (j + i - k) (by rw [e1]; omega)
    have a2 := at_adr l.wf hjt i (by rw [o1]; exact hi)
    rw [show adr k + 8 * ((j + i - k : Nat) : Int) = adr j + 8 * (i : Int) by unfold adr; omega, a2] at a1
    have : j = k := by simpa using a1
    rw [this, l.was] at hj
    cases hj
  have new : obOf t k = ⟨adr k, at', List.replicate sz 0⟩ := by
    unfold obOf
    rw [e1, e2, l.word]
    congr 1
    apply List.ext_getElem (by simp)
    intro i h1 h2
    have hi : i < sz := by simpa using h2
    simp [hi]
  obtain ⟨d, hd⟩ : ∃ d, s.n * 32 = k + 1 + d := ⟨s.n * 32 - (k + 1), by omega⟩
  have T1 : s.T = trues s.beg k ++ tB s.beg k d := by
    unfold St.T
    rw [hd, trues_cut, l.was]
    rfl
  have T2 : t.T = trues s.beg k ++ k :: tB s.beg k d := by
    unfold St.T
    rw [l.n, hd, trues_cut, l.beg, trues_congr (fun j hj => upd_ne s.beg true (show j ≠ k by omega)), tB_congr (fun j hj => upd_ne s.beg true (show j ≠ k by omega)), upd_same]
    rfl
  have A1 : (trues s.beg k).map (obOf t) = (trues s.beg k).map (obOf s) := List.map_congr_left fun j hj => old j ((trues_mem _ _ _).1 hj).2
  have B1 : (tB s.beg k d).map (obOf t) = (tB s.beg k d).map (obOf s) := List.map_congr_left fun j hj => old j (tB_gt _ _ _ _ hj).2
  have hl : lead (adr k) (s.T.map (obOf s)) = ((trues s.beg k).map (obOf s)).length := by
    rw [T1, List.map_append]
    refine lead_app _ _ (fun o ho => ?_) _ fun o ho => ?_
    · obtain ⟨j, hj, rfl⟩ := List.mem_map.1 ho
      have := (tB_gt _ _ _ _ hj).1
      simp only [obOf, adr]
      omega
    · obtain ⟨j, hj, rfl⟩ := List.mem_map.1 ho
      have := ((trues_mem _ _ _).1 hj).1
      simp only [obOf, adr]
      omega
  have ho : t.T.map (obOf t) = (s.T.map (obOf s)).take (lead (adr k) (s.T.map (obOf s))) ++ ⟨adr k, at', List.replicate sz 0⟩ :: (s.T.map (obOf s)).drop (lead (adr k) (s.T.map (obOf s))) := by
    rw [hl, T1, T2, List.map_append, List.map_append, List.map_cons, A1, B1, new, List.take_left, List.drop_left]
  unfold absM Mo.lay
  dsimp only
  rw [ho, l.n, l.room, l.trig, l.roots, l.blk, l.since, l.colls]

theorem absM_drop {s t : St} {k i : Nat} (l : DropTo s k t) (hi : s.T[i]? = some k) (kept : Nat) : absM t kept = { absM s kept with objs := (absM s kept).objs.eraseIdx i } := by
  obtain ⟨hb, hk⟩ := T_beg (List.mem_of_getElem? hi)
  have old : ∀ j, s.beg j = true → j ≠ k → obOf t j = obOf s j := by
    intro j hj hne
    have hjt : t.beg j = true := by rw [l.beg, upd_ne _ _ hne]; exact hj
    have b := l.wf.bg j hjt
    rw [l.n] at b
    rcases l.page (j / 32) (by omega) with ⟨o1, o2, _⟩ | ⟨o1, _⟩
    · exact obOf_congr o1 o2 fun i _ => by rw [l.word]
    · omega
  obtain ⟨d, hd⟩ : ∃ d, s.n * 32 = k + 1 + d := ⟨s.n * 32 - (k + 1), by omega⟩
  have T1 : s.T = trues s.beg k ++ k :: tB s.beg k d := by
    unfold St.T
    rw [hd, trues_cut, hb]
    rfl
  have T2 : t.T = trues s.beg k ++ tB s.beg k d := by
    unfold St.T
    rw [l.n, hd, trues_cut, l.beg, trues_congr (fun j hj => upd_ne s.beg false (show j ≠ k by omega)), tB_congr (fun j hj => upd_ne s.beg false (show j ≠ k by omega)), upd_same]
    rfl
  have A1 : (trues s.beg k).map (obOf t) = (trues s.beg k).map (obOf s) := List.map_congr_left fun j hj => old j ((trues_mem _ _ _).1 hj).2 (by have := ((trues_mem _ _ _).1 hj).1; omega)
  have B1 : (tB s.beg k d).map (obOf t) = (tB s.beg k d).map (obOf s) := List.map_congr_left fun j hj => old j (tB_gt _ _ _ _ hj).2 (by have := (tB_gt _ _ _ _ hj).1; omega)
  have ei : i = (trues s.beg k).length := by
    have h1 : s.T[(trues s.beg k).length]? = some k := by rw [T1]; simp
    exact (List.getElem?_inj (List.getElem?_eq_some_iff.1 hi).1 (T_nodup s)).1 (hi.trans h1.symm)
  have ho : t.T.map (obOf t) = (s.T.map (obOf s)).eraseIdx i := by
    rw [List.eraseIdx_eq_take_drop_succ, T1, T2, List.map_append, List.map_append, List.map_cons, A1, B1, ei]
    have e : (trues s.beg k).length = ((trues s.beg k).map (obOf s)).length := by simp
    rw [e, List.take_left, List.drop_append, List.drop_eq_nil_of_le (by simp), Nat.add_sub_cancel_left]
    rfl
  unfold absM
  dsimp only
  rw [ho, l.n, l.room, l.trig, l.roots, l.blk, l.since, l.colls]

theorem absM_store {s : St} {k i j : Nat} (h : WF s) (hi : s.T[i]? = some k) (hj : j < (s.size (k / 32)).toNat) (y : Int) (kept : Nat) (ho : i < (absM s kept).objs.length) :
    absM (s.setWd (k + j) y) kept = { absM s kept with objs := (absM s kept).objs.set i { (absM s kept).objs[i] with ws := ((absM s kept).objs[i]).ws.set j y } } := by
  obtain ⟨hb, hk⟩ := T_beg (List.mem_of_getElem? hi)
  obtain ⟨_, eo⟩ := obj_at s kept hi
  have key : s.T.map (obOf (s.setWd (k + j) y)) = (s.T.map (obOf s)).set i { obOf s k with ws := (obOf s k).ws.set j y } := by
    apply List.ext_getElem (by simp)
    intro q h1 h2
    have hq : q < s.T.length := by simpa using h1
    rw [List.getElem_map, List.getElem_set]
    split
    · rename_i e
      subst e
      have : s.T[i] = k := by
        have := List.getElem?_eq_getElem hq
        rw [hi] at this
        exact (Option.some.inj this).symm
      rw [this]
      unfold obOf
      dsimp only [St.setWd]
      congr 1
      apply List.ext_getElem (by simp)
      intro p g1 g2
      rw [List.getElem_set]
      simp only [List.getElem_map, List.getElem_range, upd]
      by_cases c : j = p
      · rw [if_pos c, if_pos (by omega)]
      · rw [if_neg c, if_neg (by omega)]
    · rename_i e
      rw [List.getElem_map]
      have hb' := (T_beg (List.getElem_mem hq)).1
      refine obOf_congr rfl rfl fun p hp => ?_
      show upd s.word (k + j) y (s.T[q] + p) = _
      refine upd_ne _ _ fun c => e ?_
      have a1 := at_adr h hb j hj
      have a2 := at_adr h hb' p hp
      rw [show adr k + 8 * (j : Int) = adr s.T[q] + 8 * (p : Int) by unfold adr; omega, a2] at a1
      have e2 : s.T[q]? = some k := by rw [List.getElem?_eq_getElem hq]; exact a1
      exact (List.getElem?_inj (List.getElem?_eq_some_iff.1 hi).1 (T_nodup s)).1 (hi.trans e2.symm)
  rw [eo]
  show ({ absM (s.setWd (k + j) y) kept with objs := s.T.map (obOf (s.setWd (k + j) y)) } : Mo) = _
  rw [key]
  rfl
end Go.Proofs.YtgegkcjllliifabDoor
