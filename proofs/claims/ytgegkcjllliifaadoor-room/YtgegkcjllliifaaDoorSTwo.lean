/-
  Two states that differ in the room of the list of work alone, and in how often the last collection went over the heap again.
-/
import Derived.Test.YtgegkcjllliifaaDoorHLoad
import Derived.Test.YtgegkcjllliifaaDoorHStk
namespace Go.Proofs.YtgegkcjllliifaaDoor
open Go.RowKit

def St.rm (s : St) (r a : Nat) : St := { s with room := r, again := a }
theorem rm_rm (s : St) (r a r' a' : Nat) : (s.rm r a).rm r' a' = s.rm r' a' := rfl
theorem WF.rm {s : St} (h : WF s) (r a : Nat) : WF (s.rm r a) := ⟨h.z0, h.z1, h.sm, h.gm, h.gb, h.gr, h.bg, h.un, h.uz⟩
theorem at_rm (s : St) (r a : Nat) (x : Int) : (s.rm r a).at x = s.at x := rfl
theorem place_rm (s : St) (r a sz : Nat) (at' : Bool) : (s.rm r a).place sz at' = s.place sz at' := place_congr (s := s) (t := s.rm r a) rfl rfl rfl rfl rfl rfl sz at'
theorem tidied_rm (s : St) (r a p : Nat) : (s.rm r a).tidied p = (s.tidied p).rm r a := rfl
theorem dropped_rm (s : St) (r a k : Nat) : (s.rm r a).dropped k = (s.dropped k).rm r a := rfl
theorem layPg_rm (s : St) (r a f : Nat) (sz : Int) (at' : Bool) : ∀ j, layPg (s.rm r a) f sz at' j = (layPg s f sz at' j).rm r a
  | 0 => rfl
  | j + 1 => by
    show ((layPg (s.rm r a) f sz at' j).tidied (f + j)).setPg (f + j) sz at' j false = _
    rw [layPg_rm s r a f sz at' j]
    rfl
theorem layWd_rm (s : St) (r a w0 : Nat) : ∀ j, layWd (s.rm r a) w0 j = (layWd s w0 j).rm r a
  | 0 => rfl
  | j + 1 => by
    show (layWd (s.rm r a) w0 j).setWd (w0 + j) 0 = _
    rw [layWd_rm s r a w0 j]
    rfl
theorem laid_rm (s : St) (r a k sz : Nat) (at' : Bool) : (s.rm r a).laid k sz at' = (s.laid k sz at').rm r a := by
  unfold St.laid St.laid0
  rw [layPg_rm, layWd_rm]
  rfl
theorem swp_rm (r a : Nat) : ∀ (m : Nat) (s : St) (l : Int), swp m (s.rm r a) l = (swp m s l).rm r a
  | 0, s, l => rfl
  | m + 1, s, l => by
    unfold swp
    split
    · rfl
    · show (if s.uns (s.n - (m + 1)) then swp m ((s.rm r a).tidied (s.n - (m + 1))) (l - 1) else swp m (s.rm r a) l) = _
      split
      · rw [tidied_rm, swp_rm r a m]
      · rw [swp_rm r a m]
theorem swept_rm (s : St) (r a : Nat) (l : Int) : (s.rm r a).swept l = (s.swept l).rm r a := swp_rm r a s.n s l
theorem reach_rm (s : St) (r a k : Nat) : (s.rm r a).Reach k ↔ s.Reach k := by
  constructor
  · intro h
    induction h with
    | root h1 h2 => exact .root h1 h2
    | word _ h2 h3 h4 ih => exact .word ih h2 h3 h4
  · intro h
    induction h with
    | root h1 h2 => exact .root (s := s.rm r a) h1 h2
    | word _ h2 h3 h4 ih => exact .word (s := s.rm r a) ih h2 h3 h4
theorem named_rm (s : St) (r a p : Nat) : (s.rm r a).Named p ↔ s.Named p := by
  unfold St.Named St.Src
  constructor
  · rintro ⟨x, hx, h2, h3, h4⟩
    refine ⟨x, hx.imp id ?_, h2, h3, h4⟩
    rintro ⟨j, i, q1, q2⟩
    exact ⟨j, i, (reach_rm s r a j).1 q1, q2⟩
  · rintro ⟨x, hx, h2, h3, h4⟩
    refine ⟨x, hx.imp id ?_, h2, h3, h4⟩
    rintro ⟨j, i, q1, q2⟩
    exact ⟨j, i, (reach_rm s r a j).2 q1, q2⟩
theorem bool_iff {x y : Bool} (h : x = true ↔ y = true) : x = y := by cases x <;> cases y <;> simp_all
theorem marked_rm {s : St} {r a : Nat} {st bl st' bl' : Nat → Bool} (h1 : Marked s st bl) (h2 : Marked (s.rm r a) st' bl') : st' = st ∧ bl' = bl := by
  refine ⟨funext fun k => bool_iff ?_, funext fun p => bool_iff ?_⟩
  · exact (h2.stay k).trans ((reach_rm s r a k).trans (h1.stay k).symm)
  · exact (h2.blk p).trans ((named_rm s r a p).trans (h1.blk p).symm)
theorem collected_rm (s : St) (r a : Nat) (st bl : Nat → Bool) (ag ag' : Nat) : (s.rm r a).collected st bl ag' = (s.collected st bl ag).rm r ag' := by
  unfold St.collected
  rfl
/-- A collection of each. -/
theorem ahead_rm {s t t' : St} {r a : Nat} (h1 : AheadC s t) (h2 : AheadC (s.rm r a) t') : ∃ a', t' = t.rm r a' := by
  obtain ⟨st, bl, ag, m, _, _, rfl⟩ := h1.ex
  obtain ⟨st', bl', ag', m', _, _, rfl⟩ := h2.ex
  obtain ⟨e1, e2⟩ := marked_rm m m'
  subst e1 e2
  exact ⟨ag', collected_rm s r a _ _ _ _⟩

theorem sumW_rm (s : St) (r a : Nat) : ∀ n, sumW (s.rm r a) n = sumW s n
  | 0 => rfl
  | n + 1 => by unfold sumW; rw [sumW_rm s r a n]; rfl

/-! Calls as functions of the state. -/
def St.code (s : St) (x : Int) : Int := if s.at x = none then 5 else 0
def St.put (s : St) (x v : Int) : St := if s.at x = none then s else s.setWd ((x - 1048576) / 8).toNat v
def St.get (s : St) (x : Int) : Int := if s.at x = none then 0 else s.word ((x - 1048576) / 8).toNat
def St.pushF (s : St) (x : Int) : St := if s.roots.length < 24 then { s with roots := s.roots ++ [x] } else s
def St.pushC (s : St) : Int := if s.roots.length < 24 then 0 else 7
def St.popF (s : St) : St := { s with roots := s.roots.take (s.roots.length - 1) }
def St.popV (s : St) : Int := if s.roots.length = 0 then 0 else s.roots.getD (s.roots.length - 1) 0
def St.popC (s : St) : Int := if s.roots.length = 0 then 8 else 0
def St.setF (s : St) (x : Int) : St := if 1 < s.roots.length then { s with roots := s.roots.set 1 x } else s
def St.setC (s : St) : Int := if 1 < s.roots.length then 0 else 9
def St.freeF (s : St) (x : Int) : St := match s.at x with | none => s | some f => if 1048576 + (f : Int) * 8 = x then s.dropped f else s
def St.freeC (s : St) (x : Int) : Int := match s.at x with | none => 5 | some f => if 1048576 + (f : Int) * 8 = x then 0 else 6

theorem put_any (L : HL) (s : St) (x v : Int) (w : World) (R : Rep w L s) (wf : WF s) (h8 : x % 8 = 0) (h1 : 1048576 ≤ x) (h2 : x < 1048576 + 256 * (s.n : Int)) :
    Calls Tryd.prog 29 #[.pointer (some ⟨L.h, 0, none⟩), .int .i64 x, .int .i64 v] w fun e w' => e = .returned (.int .i64 (s.code x)) ∧ HSt w L (s.put x v) w' := by
  unfold St.code St.put
  cases ha : s.at x with
  | none =>
    rw [if_pos rfl, if_pos rfl]
    refine (hStore_err0 L s x v 5 w (if_neg (by omega)) R wf.ok (.inr ha)).mono ?_
    rintro e w' ⟨he, hb⟩
    exact ⟨he, HSt.same R hb⟩
  | some f =>
    rw [if_neg (by simp), if_neg (by simp)]
    refine (hStore_ok L s x v ((x - 1048576) / 8).toNat f w R wf.ok h8 ha (by omega) h1 (by omega)).mono ?_
    rintro e w' ⟨he, r, t⟩
    exact ⟨he, HSt.of r t⟩
theorem get_any (L : HL) (s : St) (x : Int) (w : World) (R : Rep w L s) (wf : WF s) (h8 : x % 8 = 0) (h1 : 1048576 ≤ x) (h2 : x < 1048576 + 256 * (s.n : Int)) :
    Calls Tryd.prog 32 #[.pointer (some ⟨L.h, 0, none⟩), .int .i64 x] w fun e w' => e = .returned (.tuple #[.int .i64 (s.get x), .int .i64 (s.code x)]) ∧ Below w.heap.size w w' := by
  unfold St.code St.get
  cases ha : s.at x with
  | none =>
    rw [if_pos rfl, if_pos rfl]
    exact hLoad_err0 L s x 5 w (if_neg (by omega)) R wf.ok (.inr ha)
  | some f =>
    rw [if_neg (by simp), if_neg (by simp)]
    exact hLoad_ok L s x ((x - 1048576) / 8).toNat f w R wf.ok h8 ha (by omega) h1 (by omega)
theorem push_any (L : HL) (s : St) (x : Int) (w : World) (R : Rep w L s) : Calls Tryd.prog 27 #[.pointer (some ⟨L.h, 0, none⟩), .int .i64 x] w fun e w' => e = .returned (.int .i64 s.pushC) ∧ HSt w L (s.pushF x) w' := by
  unfold St.pushC St.pushF
  by_cases c : s.roots.length < 24
  · rw [if_pos c, if_pos c]; exact hPush_ok L s x w R c
  · rw [if_neg c, if_neg c]
    refine (hPush_full L s x w R (by omega)).mono ?_
    rintro e w' ⟨he, rfl⟩
    exact ⟨he, HSt.same R (Below.refl _ _)⟩
theorem pop_any (L : HL) (s : St) (w : World) (R : Rep w L s) : Calls Tryd.prog 44 #[.pointer (some ⟨L.h, 0, none⟩)] w fun e w' => e = .returned (.tuple #[.int .i64 s.popV, .int .i64 s.popC]) ∧ HSt w L s.popF w' := by
  unfold St.popV St.popC St.popF
  by_cases c : s.roots.length = 0
  · rw [if_pos c, if_pos c]
    have e0 : s.roots = [] := List.eq_nil_of_length_eq_zero c
    refine (hPop_none L s w R e0).mono ?_
    rintro e w' ⟨he, rfl⟩
    refine ⟨he, ?_⟩
    have : ({ s with roots := s.roots.take (s.roots.length - 1) } : St) = s := by rw [e0]; cases s; simp only at e0; rw [e0]; rfl
    rw [this]
    exact HSt.same R (Below.refl _ _)
  · rw [if_neg c, if_neg c]
    exact hPop_ok L s (s.roots.length - 1) w R (by omega)
theorem set_any (L : HL) (s : St) (x : Int) (w : World) (R : Rep w L s) : Calls Tryd.prog 30 #[.pointer (some ⟨L.h, 0, none⟩), .int .i64 1, .int .i64 x] w fun e w' => e = .returned (.int .i64 s.setC) ∧ HSt w L (s.setF x) w' := by
  unfold St.setC St.setF
  by_cases c : 1 < s.roots.length
  · rw [if_pos c, if_pos c]; exact hSet_ok L s 1 x w R c
  · rw [if_neg c, if_neg c]
    refine (hSet_none L s 1 x w R (by omega)).mono ?_
    rintro e w' ⟨he, rfl⟩
    exact ⟨he, HSt.same R (Below.refl _ _)⟩
theorem free_any (L : HL) (s : St) (x : Int) (w : World) (R : Rep w L s) (wf : WF s) : Calls Tryd.prog 43 #[.pointer (some ⟨L.h, 0, none⟩), .int .i64 x] w fun e w' => e = .returned (.int .i64 (s.freeC x)) ∧ HSt w L (s.freeF x) w' := by
  unfold St.freeC St.freeF
  cases ha : s.at x with
  | none =>
    refine (hFree_none L s x w R wf.ok ha).mono ?_
    rintro e w' ⟨he, hb⟩
    exact ⟨he, HSt.same R hb⟩
  | some f =>
    simp only
    by_cases c : 1048576 + (f : Int) * 8 = x
    · rw [if_pos c, if_pos c]
      subst c
      have hb := ((at_iff wf).1 ha).1
      refine (hFree_ok L s f w R wf.ok ha (wf.rb (by have := (wf.bg f hb).1; omega))).mono ?_
      rintro e w' ⟨he, r, t⟩
      exact ⟨he, HSt.of r t⟩
    · rw [if_neg c, if_neg c]
      refine (hFree_base L s x f w R wf.ok ha c).mono ?_
      rintro e w' ⟨he, hb⟩
      exact ⟨he, HSt.same R hb⟩
theorem WF.put {s : St} (h : WF s) (x v : Int) : WF (s.put x v) := by unfold St.put; split; exact h; exact h.setWd _ _
theorem WF.pushF {s : St} (h : WF s) (x : Int) : WF (s.pushF x) := by unfold St.pushF; split; exact h.roots _; exact h
theorem WF.popF {s : St} (h : WF s) : WF s.popF := h.roots _
theorem WF.setF {s : St} (h : WF s) (x : Int) : WF (s.setF x) := by unfold St.setF; split; exact h.roots _; exact h
theorem WF.freeF {s : St} (h : WF s) (x : Int) : WF (s.freeF x) := by
  unfold St.freeF
  split
  · exact h
  · rename_i f hf
    split
    · exact (dropped_to h ((at_iff h).1 hf).1).wf
    · exact h
theorem put_rm (s : St) (r a : Nat) (x v : Int) : (s.rm r a).put x v = (s.put x v).rm r a := by unfold St.put; rw [at_rm]; split <;> rfl
theorem pushF_rm (s : St) (r a : Nat) (x : Int) : (s.rm r a).pushF x = (s.pushF x).rm r a := by
  unfold St.pushF
  show (if s.roots.length < 24 then _ else _) = _
  split <;> rfl
theorem setF_rm (s : St) (r a : Nat) (x : Int) : (s.rm r a).setF x = (s.setF x).rm r a := by
  unfold St.setF
  show (if 1 < s.roots.length then _ else _) = _
  split <;> rfl
theorem freeF_rm (s : St) (r a : Nat) (x : Int) : (s.rm r a).freeF x = (s.freeF x).rm r a := by
  unfold St.freeF
  rw [at_rm]
  cases s.at x with
  | none => rfl
  | some f => simp only; split <;> rfl
theorem put_n (s : St) (x v : Int) : (s.put x v).n = s.n ∧ (s.put x v).colls = s.colls := by unfold St.put; split <;> exact ⟨rfl, rfl⟩
theorem pushF_n (s : St) (x : Int) : (s.pushF x).n = s.n ∧ (s.pushF x).colls = s.colls := by unfold St.pushF; split <;> exact ⟨rfl, rfl⟩
theorem setF_n (s : St) (x : Int) : (s.setF x).n = s.n ∧ (s.setF x).colls = s.colls := by unfold St.setF; split <;> exact ⟨rfl, rfl⟩
theorem freeF_n (s : St) (x : Int) : (s.freeF x).n = s.n ∧ (s.freeF x).colls = s.colls := by
  unfold St.freeF
  split
  · exact ⟨rfl, rfl⟩
  · split <;> exact ⟨rfl, rfl⟩

/-! Two heaps. -/
structure Duo (w0 w : World) (h1 h2 : Nat) (L1 L2 : HL) (s1 s2 : St) : Prop where
  g : Hg w0 w h1 L1 s1
  h : Hg w0 w h2 L2 s2
  d : ∀ k, k ∈ L1.blocks → k ∉ L2.blocks
/-- What other blocks see of it. -/
structure Fre (w : World) (L1 L2 : HL) (w' : World) (L1' L2' : HL) : Prop where
  i1 : ∀ k, k ∈ L1'.blocks → k ∈ L1.blocks ∨ w.heap.size ≤ k
  i2 : ∀ k, k ∈ L2'.blocks → k ∈ L2.blocks ∨ w.heap.size ≤ k
  t : Touch (L1.blocks ++ L2.blocks) w w'
def DuoTo (w0 w : World) (h1 h2 : Nat) (L1 L2 : HL) (s1 s2 : St) (w' : World) : Prop := ∃ L1' L2', Duo w0 w' h1 h2 L1' L2' s1 s2 ∧ Fre w L1 L2 w' L1' L2'
theorem Fre.refl (w : World) (L1 L2 : HL) : Fre w L1 L2 w L1 L2 := ⟨fun _ h => .inl h, fun _ h => .inl h, Touch.refl _ _⟩
theorem Hg.other {w0 w w' : World} {hb : Nat} {L : HL} {s : St} {B : List Nat} (h : Hg w0 w hb L s) (t : Touch B w w') (hB : ∀ k, k ∈ B → w0.heap.size ≤ k) (hd : ∀ k, k ∈ B → k ∉ L.blocks) : Hg w0 w' hb L s :=
  ⟨h.e, h.r.agree fun k hk => t.block k (h.r.lt k hk) (fun e => hd k e hk), h.wf, h.own, ⟨t.os.trans h.b.os, t.tape.trans h.b.tape, t.output.trans h.b.output, Nat.le_trans h.b.size t.size, fun k hk => (t.block k (Nat.lt_of_lt_of_le hk h.b.size) (fun e => by have := hB k e; omega)).trans (h.b.block k hk)⟩, h.t⟩
theorem Duo.one {w0 w wc w' : World} {h1 h2 : Nat} {L1 L2 L1c L2c : HL} {s1 s2 s1' : St} (D : Duo w0 wc h1 h2 L1c L2c s1 s2) (F : Fre w L1 L2 wc L1c L2c) (k : HSt wc L1c s1' w') (wf : WF s1') : DuoTo w0 w h1 h2 L1 L2 s1' s2 w' := by
  obtain ⟨L', g, i, t⟩ := D.g.hst k wf
  have hs := F.t.size
  refine ⟨L', L2c, ⟨g, D.h.other t D.g.own (fun q hq => D.d q hq), fun q hq h2 => ?_⟩, ⟨fun q hq => ?_, F.i2, F.t.trans t fun q hq => ?_⟩⟩
  · rcases i q hq with x | x
    · exact D.d q x h2
    · have := D.h.r.lt q h2; omega
  · rcases i q hq with x | x
    · exact F.i1 q x
    · exact .inr (by omega)
  · rcases F.i1 q hq with x | x
    · exact .inl (List.mem_append.2 (.inl x))
    · exact .inr x
theorem Duo.two {w0 w wc w' : World} {h1 h2 : Nat} {L1 L2 L1c L2c : HL} {s1 s2 s2' : St} (D : Duo w0 wc h1 h2 L1c L2c s1 s2) (F : Fre w L1 L2 wc L1c L2c) (k : HSt wc L2c s2' w') (wf : WF s2') : DuoTo w0 w h1 h2 L1 L2 s1 s2' w' := by
  obtain ⟨L', g, i, t⟩ := D.h.hst k wf
  have hs := F.t.size
  refine ⟨L1c, L', ⟨D.g.other t D.h.own (fun q hq h => D.d q h hq), g, fun q hq h2 => ?_⟩, ⟨F.i1, fun q hq => ?_, F.t.trans t fun q hq => ?_⟩⟩
  · rcases i q h2 with x | x
    · exact D.d q hq x
    · have := D.g.r.lt q hq; omega
  · rcases i q hq with x | x
    · exact F.i2 q x
    · exact .inr (by omega)
  · rcases F.i2 q hq with x | x
    · exact .inl (List.mem_append.2 (.inr x))
    · exact .inr x
theorem Duo.quiet {w0 w wc w' : World} {h1 h2 : Nat} {L1 L2 L1c L2c : HL} {s1 s2 : St} (D : Duo w0 wc h1 h2 L1c L2c s1 s2) (F : Fre w L1 L2 wc L1c L2c) (b : Below wc.heap.size wc w') : DuoTo w0 w h1 h2 L1 L2 s1 s2 w' :=
  ⟨L1c, L2c, ⟨D.g.below b, D.h.below b, D.d⟩, ⟨F.i1, F.i2, F.t.below b⟩⟩
end Go.Proofs.YtgegkcjllliifaaDoor
