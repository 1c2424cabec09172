/-
  What roots lead to, and what a marking keeps to on its way.
-/
import Derived.Test.YtgegkcjllliifabDoorHMark
namespace Go.Proofs.YtgegkcjllliifabDoor
open Go.RowKit

/-- What roots lead to: the first words of those objects. -/
inductive St.Reach (s : St) : Nat → Prop
  | root {x : Int} {k : Nat} : x ∈ s.roots → s.at x = some k → St.Reach s k
  | word {j k i : Nat} : St.Reach s j → s.atom (j / 32) = false → i < (s.size (j / 32)).toNat → s.at (s.word (j + i)) = some k → St.Reach s k
/-- The words that are followed. -/
def St.Src (s : St) (x : Int) : Prop := x ∈ s.roots ∨ ∃ j i, s.Reach j ∧ s.atom (j / 32) = false ∧ i < (s.size (j / 32)).toNat ∧ x = s.word (j + i)
def St.inHeap (s : St) (x : Int) : Prop := 1048576 ≤ x ∧ x < 1048576 + 256 * (s.n : Int)
def pgOf (x : Int) : Nat := ((x - 1048576) / 8).toNat / 32
/-- The pages that are named where no object lies. -/
def St.Named (s : St) (p : Nat) : Prop := ∃ x, s.Src x ∧ s.inHeap x ∧ s.at x = none ∧ pgOf x = p

theorem Src.reach {s : St} {x : Int} {k : Nat} (h : s.Src x) (hk : s.at x = some k) : s.Reach k := by
  rcases h with h | ⟨j, i, h1, h2, h3, rfl⟩
  · exact .root h hk
  · exact .word h1 h2 h3 hk
theorem Reach.lt {s : St} (ok : s.ok) {k : Nat} (h : s.Reach k) : k < s.n * 32 ∧ k / 32 < s.n := by
  cases h with
  | root h1 h2 => exact St.at_lt ok h2
  | word _ _ _ h4 => exact St.at_lt ok h4

/-- A word has been followed. -/
def Fol (s : St) (m : Ms) (x : Int) : Prop := s.inHeap x → (s.at x = none → m.black (pgOf x) = true) ∧ ∀ k, s.at x = some k → m.stays k = true
/-- All words of the object have been followed. -/
def Cl (s : St) (m : Ms) (j : Nat) : Prop := ∀ i, i < (s.size (j / 32)).toNat → Fol s m (s.word (j + i))

def St.cnt (s : St) (m : Ms) : Nat := cntF m.stays (s.n * 32)
structure MI (s : St) (E : Nat → Prop) (m : Ms) : Prop where
  stay : ∀ k, m.stays k = true → s.Reach k
  blk : ∀ p, m.black p = true → s.Named p
  work : ∀ k, k ∈ m.work → m.stays k = true ∧ s.atom (k / 32) = false
  prog : m.missed = false → ∀ k, m.stays k = true → s.atom (k / 32) = false → k ∈ m.work ∨ Cl s m k ∨ E k
  wlen : m.work.length ≤ s.cnt m
  room : m.work.length ≤ s.room
structure Le (s : St) (m m' : Ms) : Prop where
  st : ∀ k, m.stays k = true → m'.stays k = true
  bl : ∀ k, m.black k = true → m'.black k = true
  mi : m.missed = true → m'.missed = true
  ct : s.cnt m ≤ s.cnt m'
  cm : m'.missed = true → m.missed = true ∨ (s.cnt m + 1 ≤ s.cnt m' ∧ s.room + 1 ≤ s.cnt m')
def St.mu (s : St) (m : Ms) : Nat := 2 * (s.n * 32 - s.cnt m) + m.work.length

theorem Le.refl (s : St) (m : Ms) : Le s m m := ⟨fun _ h => h, fun _ h => h, fun h => h, Nat.le_refl _, fun h => .inl h⟩
theorem Le.trans {s : St} {a b c : Ms} (h : Le s a b) (k : Le s b c) : Le s a c := by
  refine ⟨fun q x => k.st q (h.st q x), fun q x => k.bl q (h.bl q x), fun x => k.mi (h.mi x), Nat.le_trans h.ct k.ct, fun x => ?_⟩
  have h1 := h.ct
  have h2 := k.ct
  rcases k.cm x with y | y
  · rcases h.cm y with z | z
    · exact .inl z
    · exact .inr ⟨by omega, by omega⟩
  · exact .inr ⟨by omega, by omega⟩
theorem Fol.mono {s : St} {m m' : Ms} {x : Int} (h : Fol s m x) (l : Le s m m') : Fol s m' x := fun hin => ⟨fun e => l.bl _ ((h hin).1 e), fun k e => l.st _ ((h hin).2 k e)⟩
theorem Cl.mono {s : St} {m m' : Ms} {j : Nat} (h : Cl s m j) (l : Le s m m') : Cl s m' j := fun i hi => (h i hi).mono l

theorem cntF_congr {f g : Nat → Bool} : ∀ {n : Nat}, (∀ k, k < n → f k = g k) → cntF f n = cntF g n
  | 0, _ => rfl
  | n + 1, h => by
    unfold cntF
    rw [cntF_congr fun k hk => h k (by omega), h n (by omega)]
theorem cntF_upd {f : Nat → Bool} {k : Nat} : ∀ {n : Nat}, k < n → f k = false → cntF (upd f k true) n = cntF f n + 1
  | 0, h, _ => by omega
  | n + 1, h, hf => by
    unfold cntF
    by_cases e : k = n
    · subst e
      rw [upd_same, hf, cntF_congr (f := upd f k true) (g := f) fun q hq => upd_other _ _ _ _ (by omega)]
      simp
    · rw [cntF_upd (by omega) hf, upd_other _ _ _ _ (fun e2 => e e2.symm)]
      omega

theorem cnt_stay {s : St} {m : Ms} {k : Nat} (hk : k < s.n * 32) (h : m.stays k = false) : s.cnt (m.stay k) = s.cnt m + 1 := cntF_upd hk h
theorem cnt_le (s : St) (m : Ms) : s.cnt m ≤ s.n * 32 := cntF_le _ _

theorem Le.stay {s : St} {m : Ms} {k : Nat} (hk : k < s.n * 32) (h : m.stays k = false) : Le s m (m.stay k) := by
  refine ⟨fun q hq => ?_, fun _ h => h, fun h => h, by rw [cnt_stay hk h]; omega, fun h => .inl h⟩
  show upd m.stays k true q = true
  unfold upd
  split
  · rfl
  · exact hq

theorem MI.follow {s : St} {E : Nat → Prop} {m : Ms} (ok : s.ok) (h : MI s E m) {x : Int} (hx : s.Src x) : MI s E (m.follow s x) ∧ Le s m (m.follow s x) ∧ Fol s (m.follow s x) x ∧ s.mu (m.follow s x) ≤ s.mu m := by
  unfold Ms.follow
  split
  · rename_i hin
    split
    · rename_i hat
      have l : Le s m (m.dark (((x - 1048576) / 8).toNat / 32)) := by
        refine ⟨fun _ h => h, fun q hq => ?_, fun h => h, Nat.le_refl _, fun h => .inl h⟩
        show upd m.black _ true q = true
        unfold upd
        split
        · rfl
        · exact hq
      refine ⟨⟨h.stay, fun p hp => ?_, h.work, fun hm k hk ha => ?_, h.wlen, h.room⟩, l, fun _ => ⟨fun _ => upd_same _ _ _, fun k hk => by rw [hat] at hk; cases hk⟩, Nat.le_refl _⟩
      · by_cases e : p = ((x - 1048576) / 8).toNat / 32
        · exact ⟨x, hx, hin, hat, e.symm⟩
        · have : upd m.black (((x - 1048576) / 8).toNat / 32) true p = true := hp
          rw [upd_other _ _ _ _ e] at this
          exact h.blk p this
      · rcases h.prog hm k hk ha with y | y | y
        · exact .inl y
        · exact .inr (.inl (y.mono l))
        · exact .inr (.inr y)
    · rename_i k hat
      have hlt := (St.at_lt ok hat).1
      split
      · rename_i hs
        exact ⟨h, Le.refl _ _, fun _ => ⟨fun e => by rw [hat] at e; (cases e), fun q hq => by rw [hat] at hq; cases hq; exact hs⟩, Nat.le_refl _⟩
      · rename_i hs
        have hs' : m.stays k = false := by simpa using hs
        have l := Le.stay hlt hs'
        have hc := cnt_stay hlt hs'
        have hcl := cnt_le s (m.stay k)
        have hst : ∀ q, (m.stay k).stays q = true → s.Reach q := by
          intro q hq
          by_cases e : q = k
          · rw [e]; exact Src.reach hx hat
          · have : upd m.stays k true q = true := hq
            rw [upd_other _ _ _ _ e] at this
            exact h.stay q this
        have hfol : ∀ m' : Ms, m'.stays = (m.stay k).stays → Fol s m' x := fun m' e _ => ⟨fun e2 => by rw [hat] at e2; (cases e2), fun q hq => by rw [hat] at hq; cases hq; rw [e]; exact upd_same _ _ _⟩
        have hw : ∀ q, q ∈ m.work → (m.stay k).stays q = true ∧ s.atom (q / 32) = false := fun q hq => ⟨l.st q (h.work q hq).1, (h.work q hq).2⟩
        split
        · rename_i ha
          refine ⟨⟨hst, h.blk, hw, fun hm q hq hqa => ?_, ?_, h.room⟩, l, hfol _ rfl, ?_⟩
          · by_cases e : q = k
            · rw [e, ha] at hqa; cases hqa
            · have : upd m.stays k true q = true := hq
              rw [upd_other _ _ _ _ e] at this
              rcases h.prog hm q this hqa with y | y | y
              · exact .inl y
              · exact .inr (.inl (y.mono l))
              · exact .inr (.inr y)
          · have := h.wlen
            show m.work.length ≤ _
            omega
          · unfold St.mu
            show 2 * (s.n * 32 - s.cnt (m.stay k)) + m.work.length ≤ _
            omega
        · rename_i ha
          unfold Ms.note
          have hwl : (m.stay k).work.length = m.work.length := rfl
          split
          · rename_i hr
            have h1 : s.cnt ⟨(m.stay k).stays, (m.stay k).black, (m.stay k).work, true⟩ = s.cnt (m.stay k) := rfl
            have h2 := h.wlen
            refine ⟨⟨hst, h.blk, hw, fun hm => (by cases hm), ?_, h.room⟩, ⟨l.st, l.bl, fun _ => rfl, l.ct, fun _ => .inr ⟨by omega, by omega⟩⟩, hfol _ rfl, ?_⟩
            · show m.work.length ≤ _
              omega
            · unfold St.mu
              show 2 * (s.n * 32 - s.cnt ⟨(m.stay k).stays, (m.stay k).black, (m.stay k).work, true⟩) + m.work.length ≤ _
              omega
          · rename_i hr
            have h1 : s.cnt ⟨(m.stay k).stays, (m.stay k).black, (m.stay k).work ++ [k], (m.stay k).missed⟩ = s.cnt (m.stay k) := rfl
            have h2 := h.wlen
            have l2 : Le s m { m.stay k with work := (m.stay k).work ++ [k] } := ⟨l.st, l.bl, l.mi, l.ct, l.cm⟩
            refine ⟨⟨hst, h.blk, fun q hq => ?_, fun hm q hq hqa => ?_, ?_, ?_⟩, l2, hfol _ rfl, ?_⟩
            · have hq' : q ∈ m.work ++ [k] := hq
              rw [List.mem_append, List.mem_singleton] at hq'
              rcases hq' with y | y
              · exact hw q y
              · rw [y]; exact ⟨upd_same _ _ _, by simpa using ha⟩
            · show q ∈ m.work ++ [k] ∨ _
              rw [List.mem_append, List.mem_singleton]
              by_cases e : q = k
              · exact .inl (.inr e)
              · have : upd m.stays k true q = true := hq
                rw [upd_other _ _ _ _ e] at this
                rcases h.prog hm q this hqa with y | y | y
                · exact .inl (.inl y)
                · exact .inr (.inl (y.mono l2))
                · exact .inr (.inr y)
            · show (m.work ++ [k]).length ≤ s.cnt ⟨(m.stay k).stays, (m.stay k).black, (m.stay k).work ++ [k], (m.stay k).missed⟩
              rw [h1, List.length_append, List.length_singleton]
              omega
            · show (m.work ++ [k]).length ≤ _
              rw [List.length_append, List.length_singleton]
              omega
            · unfold St.mu
              show 2 * (s.n * 32 - s.cnt ⟨(m.stay k).stays, (m.stay k).black, (m.stay k).work ++ [k], (m.stay k).missed⟩) + (m.work ++ [k]).length ≤ _
              rw [h1, List.length_append, List.length_singleton]
              omega
  · rename_i hin
    exact ⟨h, Le.refl _ _, fun e => absurd e hin, Nat.le_refl _⟩

/-- The object on which the walk stands is done. -/
theorem MI.close {s : St} {E : Nat → Prop} {m : Ms} {j : Nat} (h : MI s (fun q => E q ∨ q = j) m) (hc : Cl s m j) : MI s E m := by
  refine ⟨h.stay, h.blk, h.work, fun hm k hk ha => ?_, h.wlen, h.room⟩
  rcases h.prog hm k hk ha with y | y | y | y
  · exact .inl y
  · exact .inr (.inl y)
  · exact .inr (.inr y)
  · rw [y]; exact .inr (.inl hc)
theorem MI.weaken {s : St} {E F : Nat → Prop} {m : Ms} (h : MI s E m) (hw : ∀ q, m.stays q = true → s.atom (q / 32) = false → E q → F q) : MI s F m := by
  refine ⟨h.stay, h.blk, h.work, fun hm k hk ha => ?_, h.wlen, h.room⟩
  rcases h.prog hm k hk ha with y | y | y
  · exact .inl y
  · exact .inr (.inl y)
  · exact .inr (.inr (hw k hk ha y))
/-- The last of the list of work is taken off. -/
theorem MI.pop {s : St} {E : Nat → Prop} {m : Ms} {ws : List Nat} {j : Nat} (h : MI s E m) (hw : m.work = ws ++ [j]) : MI s (fun q => E q ∨ q = j) { m with work := ws } ∧ m.stays j = true ∧ s.atom (j / 32) = false ∧ s.mu { m with work := ws } + 1 = s.mu m := by
  have hj := h.work j (by rw [hw]; simp)
  refine ⟨⟨h.stay, h.blk, fun k hk => h.work k (by rw [hw, List.mem_append]; exact .inl hk), fun hm k hk ha => ?_, ?_, ?_⟩, hj.1, hj.2, ?_⟩
  · rcases h.prog hm k hk ha with y | y | y
    · rw [hw, List.mem_append, List.mem_singleton] at y
      rcases y with y | y
      · exact .inl y
      · exact .inr (.inr (.inr y))
    · exact .inr (.inl y)
    · exact .inr (.inr (.inl y))
  · have := h.wlen
    rw [hw] at this
    simp at this
    show ws.length ≤ s.cnt m
    omega
  · have := h.room
    rw [hw] at this
    simp at this
    show ws.length ≤ s.room
    omega
  · unfold St.mu
    have e : s.cnt { m with work := ws } = s.cnt m := rfl
    rw [e, hw]
    simp
    omega

/-- The marking is done: it holds what roots lead to, and the pages that are named. -/
structure Marked (s : St) (stays black : Nat → Bool) : Prop where
  stay : ∀ k, stays k = true ↔ s.Reach k
  blk : ∀ p, black p = true ↔ s.Named p
theorem MI.done {s : St} {m : Ms} (h : MI s (fun _ => False) m) (hw : m.work = []) (hm : m.missed = false) (hr : ∀ x, x ∈ s.roots → Fol s m x) (hin : ∀ x k, s.at x = some k → s.inHeap x) : Marked s m.stays m.black := by
  have key : ∀ k, s.Reach k → m.stays k = true := by
    intro k hk
    induction hk with
    | root h1 h2 => exact (hr _ h1 (hin _ _ h2)).2 _ h2
    | word _ h2 h3 h4 ih =>
      rcases h.prog hm _ ih h2 with y | y | y
      · rw [hw] at y; cases y
      · exact (y _ h3 (hin _ _ h4)).2 _ h4
      · exact y.elim
  refine ⟨fun k => ⟨h.stay k, key k⟩, fun p => ⟨h.blk p, ?_⟩⟩
  rintro ⟨x, hx, hi, hat, rfl⟩
  rcases hx with hx | ⟨j, i, h1, h2, h3, rfl⟩
  · exact (hr x hx hi).1 hat
  · rcases h.prog hm j (key j h1) h2 with y | y | y
    · rw [hw] at y; cases y
    · exact (y i h3 hi).1 hat
    · exact y.elim
theorem St.at_in {s : St} {x : Int} {k : Nat} (h : s.at x = some k) : s.inHeap x := by
  unfold St.at at h
  split at h
  · assumption
  · cases h
end Go.Proofs.YtgegkcjllliifabDoor
