/-
  Rings of objects.
-/
import Derived.Test.YtgegkcjllliifabDoorHMore
namespace Go.Proofs.YtgegkcjllliifabDoor
open Go.RowKit

def adr (k : Nat) : Int := 1048576 + (k : Int) * 8
/-- A heap of sixteen pages with objects of one size alone: their first words, in the order in which they were laid; each names the one ahead of it. -/
structure Ring (sz : Nat) (s : St) (P : List Nat) : Prop where
  n : s.n = 16
  wf : WF s
  beg : ∀ k, s.beg k = true ↔ k ∈ P
  nd : P.Nodup
  cnt : cntF s.beg 512 = P.length
  size : ∀ k, k ∈ P → s.size (k / 32) = sz ∧ s.atom (k / 32) = false
  page : ∀ p, p < 16 → s.size p = 0 ∨ (s.size p = sz ∧ s.atom p = false)
  blk : ∀ p, s.blk p = false
  word : ∀ j (hj : j + 1 < P.length), s.word (P[j + 1]) = adr (P[j])
  colls : s.colls = 0

theorem cntF_mono {f : Nat → Bool} {a : Nat} : ∀ {b : Nat}, a ≤ b → cntF f a ≤ cntF f b
  | 0, h => by obtain rfl : a = 0 := by omega
               exact Nat.le_refl _
  | b + 1, h => by
    by_cases e : a = b + 1
    · rw [e]; exact Nat.le_refl _
    · have := cntF_mono (f := f) (a := a) (b := b) (by omega)
      show _ ≤ cntF f b + _
      omega
theorem cntF_stride {f : Nat → Bool} {m sz : Nat} (hz : 1 ≤ sz) : ∀ q, (∀ j, j < q → f (m + j * sz) = true) → cntF f m + q ≤ cntF f (m + q * sz)
  | 0, _ => by simp
  | q + 1, h => by
    have ih := cntF_stride hz q fun j hj => h j (by omega)
    have h1 : cntF f (m + q * sz + 1) = cntF f (m + q * sz) + 1 := by
      show cntF f (m + q * sz) + _ = _
      rw [h q (by omega)]
      rfl
    have h2 := cntF_mono (f := f) (a := m + q * sz + 1) (b := m + (q + 1) * sz) (by rw [Nat.add_mul]; omega)
    omega
theorem cntF_pages {f : Nat → Bool} {c : Nat} : ∀ p, (∀ q, q < p → cntF f (q * 32) + c ≤ cntF f (q * 32 + 32)) → p * c ≤ cntF f (p * 32)
  | 0, _ => by simp
  | p + 1, h => by
    have ih := cntF_pages p fun q hq => h q (by omega)
    have := h p (by omega)
    rw [show (p + 1) * 32 = p * 32 + 32 by omega, show (p + 1) * c = p * c + c by rw [Nat.add_mul, Nat.one_mul]]
    omega

theorem Ring.room {sz : Nat} {s : St} {P : List Nat} (h : Ring sz s P) (z1 : 1 ≤ sz) (z2 : sz ≤ 8) (hP : P.length < 60) : ∃ k, s.place sz false = some k := by
  cases hp : s.place sz false with
  | some k => exact ⟨k, rfl⟩
  | none =>
    exfalso
    obtain ⟨p1, p2⟩ := place_none z1 hp
    have key : ∀ q, q < 16 → cntF s.beg (q * 32) + 4 ≤ cntF s.beg (q * 32 + 32) := by
      intro q hq
      obtain ⟨j, j1, j2⟩ := p2 q (by rw [h.n]; omega)
      obtain rfl : j = 0 := by omega
      have hheld : s.held q = true := by
        unfold St.free at j2
        rw [Nat.add_zero, h.blk q] at j2
        simpa using j2
      have hsz : s.size q = sz ∧ s.atom q = false := by
        rcases h.page q hq with e | e
        · exfalso
          have hb := h.wf.sm q (by rw [h.n]; exact hq) (by omega)
          unfold St.held at hheld
          rw [hb, any_iff] at hheld
          obtain ⟨k, k1, k2, k3⟩ := hheld
          have := (h.wf.bg k k3).2.1
          rw [show k / 32 = q by simp at k1 k2; omega] at this
          omega
        · exact e
      have hsh := p1 (by omega) q (by rw [h.n]; exact hq)
      unfold St.share at hsh
      rw [if_pos ⟨hsz.1, hsz.2, hheld⟩] at hsh
      have hall : ∀ j, j < 4 → s.beg (q * 32 + j * sz) = true := fun j hj => freeFrom_none z1 hsh (by omega) j (by
        have : j * sz + sz ≤ 32 := by
          have h1 : j * sz ≤ 3 * sz := Nat.mul_le_mul_right _ (by omega)
          omega
        omega)
      have h1 := cntF_stride (f := s.beg) (m := q * 32) z1 4 hall
      have h2 := cntF_mono (f := s.beg) (a := q * 32 + 4 * sz) (b := q * 32 + 32) (by omega)
      omega
    have := cntF_pages (f := s.beg) (c := 4) 16 key
    have hc := h.cnt
    rw [show 16 * 32 = 512 from rfl] at this
    omega

theorem Ring.at {sz : Nat} {s : St} {P : List Nat} (h : Ring sz s P) (z1 : 1 ≤ sz) {k : Nat} (hk : k ∈ P) : s.at (adr k) = some k := by
  rw [at_iff h.wf]
  refine ⟨(h.beg k).2 hk, ?_⟩
  unfold St.lies adr
  rw [(h.size k hk).1]
  omega

theorem Ring.lay {sz k : Nat} {s t : St} {P : List Nat} (h : Ring sz s P) (z1 : 1 ≤ sz) (z2 : sz ≤ 8) (l : LaidTo s k sz false t) (v : Int) (hv : ∀ j (hj : j + 1 = P.length), v = adr (P[j])) : Ring sz (t.setWd k v) (P ++ [k]) ∧ t.at (adr k) = some k := by
  have hkP : k ∉ P := fun e => by have := l.was; rw [(h.beg k).2 e] at this; cases this
  have hsep : ∀ j, j ∈ P → ¬ (k ≤ j ∧ j < k + sz) := by
    intro j hj hc
    have h1 : t.at (adr j) = some k := by
      rw [l.at h.wf z1, if_pos (by unfold adr; omega)]
    have h2 : t.at (adr j) = some j := by
      rw [at_iff l.wf]
      refine ⟨?_, ?_⟩
      · rw [l.beg]; unfold upd; split
        · rfl
        · exact (h.beg j).2 hj
      · unfold St.lies adr
        rw [(l.old j ((h.beg j).2 hj)).1, (h.size j hj).1]
        omega
    rw [h1] at h2
    cases h2
    exact hkP hj
  have hlt := l.lt
  rw [h.n] at hlt
  refine ⟨⟨l.n.trans h.n, l.wf.setWd _ _, fun j => ?_, ?_, ?_, fun j hj => ?_, fun p hp => ?_, fun p => ?_, fun j hj => ?_, l.colls.trans h.colls⟩, ?_⟩
  · show t.beg j = true ↔ _
    rw [l.beg, List.mem_append, List.mem_singleton]
    unfold upd
    by_cases e : j = k
    · simp [e]
    · rw [if_neg e]
      rw [h.beg j]
      simp [e]
  · rw [List.nodup_append]
    exact ⟨h.nd, by simp, fun a ha b hb e => by simp at hb; rw [hb] at e; exact hkP (by rw [← e]; exact ha)⟩
  · show cntF t.beg 512 = _
    rw [l.beg, cntF_upd (by omega) l.was, h.cnt]
    simp
  · show t.size (j / 32) = sz ∧ t.atom (j / 32) = false
    rw [List.mem_append, List.mem_singleton] at hj
    rcases hj with hj | rfl
    · have a := l.old j ((h.beg j).2 hj)
      have b := h.size j hj
      exact ⟨a.1.trans b.1, a.2.trans b.2⟩
    · exact l.sizeNew z1
  · show t.size p = 0 ∨ (t.size p = sz ∧ t.atom p = false)
    by_cases c : k / 32 ≤ p ∧ p < k / 32 + (sz + 31) / 32
    · have := l.run p c.1 c.2
      exact .inr ⟨this.1, this.2.1⟩
    · rcases l.page p c with ⟨a, b, _⟩ | ⟨a, _⟩
      · rw [a, b]; exact h.page p hp
      · exact .inl a
  · show t.blk p = false
    rw [l.blk]; exact h.blk p
  · show upd t.word k v _ = _
    by_cases e : j + 1 < P.length
    · rw [List.getElem_append_left e, List.getElem_append_left (by omega)]
      have hm : P[j + 1] ∈ P := List.getElem_mem e
      rw [upd_other _ _ _ _ (fun e2 => hkP (by rw [← e2]; exact hm)), l.word]
      show (if _ then _ else _) = _
      rw [if_neg (hsep _ hm)]
      exact h.word j e
    · have e2 : j + 1 = P.length := by simp at hj; omega
      rw [List.getElem_append_right (by omega), List.getElem_append_left (by omega)]
      simp only [e2, Nat.sub_self, List.getElem_singleton]
      rw [upd_same]
      exact hv j e2
  · rw [l.at h.wf z1, if_pos (by unfold adr; omega)]

/-- A ring: the first names the last, and a root the first: all of it is reached. -/
theorem Ring.all {sz : Nat} {s : St} {P : List Nat} (h : Ring sz s P) (z1 : 1 ≤ sz) (hP : 0 < P.length) (u : St) (hu : u = { s.setWd (P[0]) (adr (P[P.length - 1]'(by omega))) with roots := [adr (P[0])] }) (k : Nat) : u.Reach k ↔ k ∈ P := by
  have hat : ∀ x, u.at x = s.at x := fun x => by rw [hu]; rfl
  have hsz : ∀ j, j ∈ P → u.atom (j / 32) = false ∧ 0 < (u.size (j / 32)).toNat := fun j hj => by
    rw [hu]
    have := h.size j hj
    exact ⟨this.2, by show 0 < (s.size (j / 32)).toNat; omega⟩
  have w0 : u.word (P[0] + 0) = adr (P[P.length - 1]'(by omega)) := by rw [hu]; exact upd_same _ _ _
  have wf : WF u := by rw [hu]; exact (h.wf.setWd _ _).roots _
  have r0 : u.Reach (P[0]) := .root (x := adr (P[0])) (by rw [hu]; exact List.mem_singleton.2 rfl) (by rw [hat]; exact h.at z1 (List.getElem_mem hP))
  constructor
  · intro hr
    have := Reach.beg wf hr
    rw [hu] at this
    exact (h.beg k).1 this
  · intro hk
    have key : ∀ d (hd : d < P.length), u.Reach (P[P.length - 1 - d]'(by omega)) := by
      intro d
      induction d with
      | zero =>
        intro hd
        have hm : P[P.length - 1]'(by omega) ∈ P := List.getElem_mem _
        refine .word (i := 0) r0 (hsz _ (List.getElem_mem hP)).1 (hsz _ (List.getElem_mem hP)).2 ?_
        rw [w0, hat]
        exact h.at z1 hm
      | succ d ih =>
        intro hd
        have r1 := ih (by omega)
        have hm : P[P.length - 1 - d]'(by omega) ∈ P := List.getElem_mem _
        refine .word (i := 0) r1 (hsz _ hm).1 (hsz _ hm).2 ?_
        have hw := h.word (P.length - 1 - (d + 1)) (by omega)
        have e : P.length - 1 - (d + 1) + 1 = P.length - 1 - d := by omega
        simp only [e] at hw
        rw [hat]
        have hword : u.word (P[P.length - 1 - d]'(by omega) + 0) = adr (P[P.length - 1 - (d + 1)]'(by omega)) := by
          rw [hu]
          show upd s.word (P[0]) _ _ = _
          by_cases e3 : P[P.length - 1 - d]'(by omega) = P[0]
          · have := (List.getElem_inj h.nd).1 e3
            omega
          · rw [Nat.add_zero, upd_other _ _ _ _ e3]
            exact hw
        rw [hword]
        exact h.at z1 (List.getElem_mem _)
    obtain ⟨i, hi, rfl⟩ := List.getElem_of_mem hk
    have := key (P.length - 1 - i) (by omega)
    have e : P.length - 1 - (P.length - 1 - i) = i := by omega
    simp only [e] at this
    exact this

def lastA (P : List Nat) : Int := match P.getLast? with | none => 0 | some k => adr k
def firstA (P : List Nat) : Int := match P.head? with | none => 0 | some k => adr k
def rootA (P : List Nat) : List Int := match P.head? with | none => [] | some k => [adr k]
theorem lastA_at {P : List Nat} (j : Nat) (hj : j + 1 = P.length) : lastA P = adr (P[j]) := by
  unfold lastA
  rw [List.getLast?_eq_getElem?, show P.length - 1 = j by omega, List.getElem?_eq_getElem (by omega)]
theorem lastA_append (P : List Nat) (k : Nat) : lastA (P ++ [k]) = adr k := by unfold lastA; simp
theorem firstA_pos {P : List Nat} (h : 0 < P.length) : firstA P = adr (P[0]) ∧ rootA P = [adr (P[0])] := by
  unfold firstA rootA
  rw [List.head?_eq_getElem?, List.getElem?_eq_getElem h]
  exact ⟨rfl, rfl⟩
theorem firstA_append {P : List Nat} (h : 0 < P.length) (k : Nat) : firstA (P ++ [k]) = firstA P ∧ rootA (P ++ [k]) = rootA P := by
  unfold firstA rootA
  cases P with
  | nil => simp at h
  | cons a l => exact ⟨rfl, rfl⟩

theorem Ring.roots {sz : Nat} {s : St} {P : List Nat} (h : Ring sz s P) (l : List Int) : Ring sz { s with roots := l } P := ⟨h.n, h.wf.roots l, h.beg, h.nd, h.cnt, h.size, h.page, h.blk, h.word, h.colls⟩
theorem Ring.init (sz : Nat) : Ring sz (St.init 16 1) [] := by
  refine ⟨rfl, WF.init _ _, fun k => ?_, List.nodup_nil, ?_, fun k hk => (by cases hk), fun p _ => .inl rfl, fun _ => rfl, fun j hj => absurd hj (by simp), rfl⟩
  · show false = true ↔ _
    simp
  · exact cntF_zero fun _ _ => rfl

end Go.Proofs.YtgegkcjllliifabDoor
