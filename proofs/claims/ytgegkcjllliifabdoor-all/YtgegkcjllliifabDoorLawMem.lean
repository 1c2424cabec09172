/-
  How the law's own world lies in memory.
-/
import Derived.Test.YtgegkcjllliifabDoorIface
namespace Go.Proofs.YtgegkcjllliifabDoor
open Go.RowKit

/-- A heap and its model: the pair's block; the program's heap; the reference heap. -/
structure PairS where
  pb : Nat
  a : Nat
  B : List Nat
  mi : Mo
  c : Cn
  R : RL
  mr : Mo
/-- A list that was handed out, and the law's copy: both read l. -/
structure LS where
  v1 : Value
  v2 : Value
  l : List Int
/-- All that the script has made. -/
structure LSt where
  wB : Nat
  vh : Value
  vw : Value
  vl : Value
  vk : Value
  hs : List PairS
  words : List Int
  value : Int
  ls : List LS

def pairObj (p : PairS) : Obj := .cells #[.pointer (some ⟨p.a, 0, none⟩), .pointer (some ⟨p.R.r, 0, none⟩)] 74
def worldObj (s : LSt) : Obj := .cells #[s.vh, s.vw, .int .i64 s.value, s.vl, s.vk] 49
def PairIs (H : HeapI) (w : World) (O : Nat → Nat × Nat) (i : Nat) (p : PairS) : Prop := Blk w O (1, i) p.pb (pairObj p) ∧ Imp H w O (2, i) p.B p.a p.mi p.c ∧ Ref w O (3, i) p.R p.mr
def ListIs (w : World) (O : Nat → Nat × Nat) (j : Nat) (e : LS) : Prop := Row w O (4, j) 3 1 e.v1 e.l.length (ints e.l) ∧ Row w O (5, j) 3 1 e.v2 e.l.length (ints e.l)

structure LawIs (H : HeapI) (N0 : Nat) (w0 w : World) (O : Nat → Nat × Nat) (s : LSt) : Prop where
  below : Below N0 w0 w
  n0 : N0 ≤ w.heap.size
  old : ∀ k, k < N0 → O k = (9, 9)
  ng : H.ng ≤ N0
  glob : H.glob w
  st : Blk w O (0, 0) s.wB (worldObj s)
  rh : Row w O (0, 1) 72 1 s.vh s.hs.length (s.hs.map fun p => Value.pointer (some ⟨p.pb, 0, none⟩))
  rw : Row w O (0, 2) 3 1 s.vw s.words.length (ints s.words)
  rl : Row w O (0, 3) 41 1 s.vl s.ls.length (s.ls.map LS.v1)
  rk : Row w O (0, 4) 41 1 s.vk s.ls.length (s.ls.map LS.v2)
  ps : ∀ i (hi : i < s.hs.length), PairIs H w O i (s.hs[i])
  lss : ∀ j (hj : j < s.ls.length), ListIs w O j (s.ls[j])

theorem lab_ne {a b c d : Nat} (h : a ≠ c ∨ b ≠ d) : ((a, b) : Nat × Nat) ≠ (c, d) := by
  intro e
  simp only [Prod.mk.injEq] at e
  omega

theorem LawIs.common {H : HeapI} {N0 : Nat} {w0 w w' : World} {O O' : Nat → Nat × Nat} {s : LSt} {lab : Nat × Nat} (h : LawIs H N0 w0 w O s) (f : Fr lab w O w' O') (hl : lab ≠ (9, 9)) :
    Below N0 w0 w' ∧ N0 ≤ w'.heap.size ∧ (∀ k, k < N0 → O' k = (9, 9)) ∧ H.glob w' := by
  have n0 := h.n0
  have hs := f.size
  have hk : ∀ k, k < N0 → w'.heap[k]? = w.heap[k]? := fun k hk => f.block k (by omega) (by rw [h.old k hk]; exact fun e => hl e.symm)
  refine ⟨h.below.trans ⟨f.os, f.tape, f.output, f.size, hk⟩, by omega, fun k hk => by rw [f.own k (by omega)]; exact h.old k hk, ?_⟩
  have := h.ng
  exact H.globFrame h.glob fun k hk' => hk k (by omega)

/-- One pair is turned, by what is its own. -/
theorem LawIs.setPair {H : HeapI} {N0 : Nat} {w0 w w' : World} {O O' : Nat → Nat × Nat} {s : LSt} {x i : Nat} (h : LawIs H N0 w0 w O s) (f : Fr (x, i) w O w' O') (hx : x = 2 ∨ x = 3) (hi : i < s.hs.length) (p' : PairS) (hpb : p'.pb = (s.hs[i]).pb) (hp : PairIs H w' O' i p') :
    LawIs H N0 w0 w' O' { s with hs := s.hs.set i p' } := by
  obtain ⟨c1, c2, c3, c4⟩ := h.common f (lab_ne (by omega))
  have hmap : (s.hs.set i p').map (fun p => Value.pointer (some ⟨p.pb, 0, none⟩)) = s.hs.map fun p => Value.pointer (some ⟨p.pb, 0, none⟩) := by
    apply List.ext_getElem (by simp)
    intro n h1 h2
    simp only [List.length_map, List.length_set] at h1 h2
    simp only [List.getElem_map, List.getElem_set]
    by_cases e : i = n
    · subst e; simp [hpb]
    · simp [e]
  refine ⟨c1, c2, c3, h.ng, c4, h.st.fr f (lab_ne (by omega)), ?_, h.rw.fr f (lab_ne (by omega)), h.rl.fr f (lab_ne (by omega)), h.rk.fr f (lab_ne (by omega)), ?_, fun j hj => ⟨(h.lss j hj).1.fr f (lab_ne (by omega)), (h.lss j hj).2.fr f (lab_ne (by omega))⟩⟩
  · show Row w' O' (0, 1) _ 1 s.vh (s.hs.set i p').length ((s.hs.set i p').map _)
    rw [hmap, List.length_set]
    exact h.rh.fr f (lab_ne (by omega))
  · intro j hj
    have hj' : j < s.hs.length := by simpa using hj
    show PairIs H w' O' j ((s.hs.set i p')[j]'hj)
    rw [List.getElem_set]
    by_cases e : i = j
    · subst e; rw [if_pos rfl]; exact hp
    · rw [if_neg e]
      obtain ⟨q1, q2, q3⟩ := h.ps j hj'
      exact ⟨q1.fr f (lab_ne (by omega)), q2.fr f (lab_ne (by omega)), q3.fr f (lab_ne (by omega))⟩

/-- What a law's function keeps for itself stays. -/
def Loc (w : World) (O : Nat → Nat × Nat) (w' : World) (O' : Nat → Nat × Nat) : Prop := ∀ j b o, Blk w O (8, j) b o → Blk w' O' (8, j) b o
theorem Loc.trans {w w1 w2 : World} {O O1 O2 : Nat → Nat × Nat} (h : Loc w O w1 O1) (k : Loc w1 O1 w2 O2) : Loc w O w2 O2 := fun j b o hb => k j b o (h j b o hb)
theorem Loc.of_fr {lab : Nat × Nat} {w w' : World} {O O' : Nat → Nat × Nat} (f : Fr lab w O w' O') (hl : lab.1 ≠ 8) : Loc w O w' O' := fun j b o hb => hb.fr f (fun e => hl (by rw [← e]))
theorem Loc.of_below {w w' : World} {O : Nat → Nat × Nat} (lab : Nat × Nat) (hB : Below w.heap.size w w') : Loc w O w' (ext w O lab) := fun j b o hb => by
  have hlt := heap_lt hb.1
  exact ⟨by rw [hB.block b hlt]; exact hb.1, by rw [ext_old w O lab b hlt]; exact hb.2⟩

/-- Pair i replaced. -/
def LSt.setP (s : LSt) (i : Nat) (p : PairS) : LSt := { s with hs := s.hs.set i p }
theorem setP_at {s : LSt} {i : Nat} {p p' : PairS} (h : s.hs[i]? = some p) : (s.setP i p').hs[i]? = some p' := by
  have := (List.getElem?_eq_some_iff.1 h).1
  simp [LSt.setP, this]
theorem setP_setP (s : LSt) (i : Nat) (p p' : PairS) : (s.setP i p).setP i p' = s.setP i p' := by simp [LSt.setP]

/-- Nothing of the law's is turned. -/
theorem LawIs.quiet {H : HeapI} {N0 : Nat} {w0 w w' : World} {O : Nat → Nat × Nat} {s : LSt} (h : LawIs H N0 w0 w O s) (hB : Below w.heap.size w w') : LawIs H N0 w0 w' (ext w O (8, 8)) s := by
  have f := Fr.of_below (O := O) (8, 8) hB
  obtain ⟨c1, c2, c3, c4⟩ := h.common f (lab_ne (by omega))
  exact ⟨c1, c2, c3, h.ng, c4, h.st.fr f (lab_ne (by omega)), h.rh.fr f (lab_ne (by omega)), h.rw.fr f (lab_ne (by omega)), h.rl.fr f (lab_ne (by omega)), h.rk.fr f (lab_ne (by omega)),
    fun i hi => ⟨(h.ps i hi).1.fr f (lab_ne (by omega)), (h.ps i hi).2.1.fr f (lab_ne (by omega)), (h.ps i hi).2.2.fr f (lab_ne (by omega))⟩, fun j hj => ⟨(h.lss j hj).1.fr f (lab_ne (by omega)), (h.lss j hj).2.fr f (lab_ne (by omega))⟩⟩

theorem LawIs.pair {H : HeapI} {N0 : Nat} {w0 w : World} {O : Nat → Nat × Nat} {s : LSt} {i : Nat} {p : PairS} (h : LawIs H N0 w0 w O s) (hp : s.hs[i]? = some p) : PairIs H w O i p := by
  obtain ⟨hi, rfl⟩ := List.getElem?_eq_some_iff.1 hp
  exact h.ps i hi

/-- A call on the program's heap of pair i. -/
theorem LawIs.imp {H : HeapI} {N0 : Nat} {w0 w w' : World} {O : Nat → Nat × Nat} {s : LSt} {i : Nat} {p : PairS} (h : LawIs H N0 w0 w O s) (hp : s.hs[i]? = some p) {m' : Mo} {c' : Cn} (ht : HTo H.is w p.B p.a m' c' w') :
    ∃ B' O', Loc w O w' O' ∧ LawIs H N0 w0 w' O' (s.setP i { p with B := B', mi := m', c := c' }) := by
  obtain ⟨hi, rfl⟩ := List.getElem?_eq_some_iff.1 hp
  obtain ⟨B', h1, h2, h3⟩ := ht
  obtain ⟨q1, q2, q3⟩ := h.ps i hi
  have f := Fr.of_touch (O := O) (lab := (2, i)) h3 q2.2
  refine ⟨B', _, Loc.of_fr f (by simp), h.setPair f (.inl rfl) hi _ rfl ⟨q1.fr f (lab_ne (by omega)), ⟨h1, fun k hk => ?_⟩, q3.fr f (lab_ne (by omega))⟩⟩
  rcases h2 k hk with e | e
  · rw [ext_old w O _ k (H.lt q2.1 k e)]; exact q2.2 k e
  · exact ext_new w O _ k e
/-- A call on the reference heap of pair i. -/
theorem LawIs.ref {H : HeapI} {N0 : Nat} {w0 w w' : World} {O : Nat → Nat × Nat} {s : LSt} {i : Nat} {p : PairS} (h : LawIs H N0 w0 w O s) (hp : s.hs[i]? = some p) {m' : Mo} (ht : RefTo w p.R m' w') :
    ∃ R' O', R'.r = p.R.r ∧ Loc w O w' O' ∧ LawIs H N0 w0 w' O' (s.setP i { p with R := R', mr := m' }) := by
  obtain ⟨hi, rfl⟩ := List.getElem?_eq_some_iff.1 hp
  obtain ⟨R', e, h1, h2, h3⟩ := ht
  obtain ⟨q1, q2, q3⟩ := h.ps i hi
  have f := Fr.of_touch (O := O) (lab := (3, i)) h3 q3.2
  have hq1 : Blk w' (ext w O (3, i)) (1, i) (s.hs[i]).pb (pairObj { s.hs[i] with R := R', mr := m' }) := by
    have := q1.fr f (lab_ne (by omega))
    unfold pairObj at this ⊢
    dsimp only
    rw [e]
    exact this
  refine ⟨R', _, e, Loc.of_fr f (by simp), h.setPair f (.inr rfl) hi _ rfl ⟨hq1, q2.fr f (lab_ne (by omega)), ⟨h1, fun k hk => ?_⟩⟩⟩
  rcases h2 k hk with x | x
  · rw [ext_old w O _ k (q3.1.lt k x)]; exact q3.2 k x
  · exact ext_new w O _ k x

/-- A pair's two pointers. -/
theorem PairIs.cells {H : HeapI} {w : World} {O : Nat → Nat × Nat} {i : Nat} {p : PairS} (h : PairIs H w O i p) : w.cell? ⟨p.pb, 0, none⟩ = some (.pointer (some ⟨p.a, 0, none⟩)) ∧ w.cell? ⟨p.pb, 1, none⟩ = some (.pointer (some ⟨p.R.r, 0, none⟩)) := by
  have hs := h.1.1
  unfold pairObj at hs
  refine ⟨?_, ?_⟩ <;> (rw [cell_of_row w p.pb _ _ _ _ hs]; rfl)

/-- What a script may have made behind t steps. -/
structure Ok (t : Nat) (s : LSt) : Prop where
  sync : ∀ (i : Nat) (p : PairS), s.hs[i]? = some p → p.mi = p.mr
  runs : ∀ (i : Nat) (p : PairS), s.hs[i]? = some p → p.mr.runs ≤ 2 * t ∧ p.mr.since ≤ 2000 * t ∧ p.mr.kept ≤ 2000
  words : s.words.length ≤ t
  hs : s.hs.length ≤ t
  ls : s.ls.length ≤ t
  value : -9223372036854775808 ≤ s.value ∧ s.value ≤ 9223372036854775807
  ll : ∀ e, e ∈ s.ls → e.l.length ≤ 3000

theorem bd_of {m : Mo} {t : Nat} (g : Geo m) (hr : m.runs ≤ 2 * t ∧ m.since ≤ 2000 * t ∧ m.kept ≤ 2000) (ht : t ≤ 2000000) : m.bd :=
  ⟨g.p1, g.p2, g.objs, g.pos, g.roots, by omega, by omega, by omega, g.stack, g.trig⟩

/-- A pair replaced by one that is in step again. -/
theorem Ok.setP {t : Nat} {s : LSt} {i : Nat} {p' : PairS} (h : Ok t s) (hs : p'.mi = p'.mr) (hr : p'.mr.runs ≤ 2 * (t + 1) ∧ p'.mr.since ≤ 2000 * (t + 1) ∧ p'.mr.kept ≤ 2000) : Ok (t + 1) (s.setP i p') := by
  have key : ∀ (j : Nat) (q : PairS), (s.setP i p').hs[j]? = some q → q = p' ∨ s.hs[j]? = some q := by
    intro j q hq
    simp only [LSt.setP, List.getElem?_set] at hq
    split at hq
    · split at hq
      · left; exact (Option.some.inj hq).symm
      · cases hq
    · right; exact hq
  refine ⟨fun j q hq => ?_, fun j q hq => ?_, by have := h.words; show s.words.length ≤ _; omega, by have := h.hs; simp only [LSt.setP, List.length_set]; omega, by have := h.ls; show s.ls.length ≤ _; omega, h.value, h.ll⟩
  · rcases key j q hq with rfl | e
    · exact hs
    · exact h.sync j q e
  · rcases key j q hq with rfl | e
    · exact hr
    · have := h.runs j q e; omega
end Go.Proofs.YtgegkcjllliifabDoor
