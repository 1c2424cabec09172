/-
  How the program's heap lies in memory: 'HL' (which blocks), 'St' (what they hold), 'Rep' (they hold it).
-/
import Derived.Test.YtgegkcjllliifabDoorGen
namespace Go.Proofs.YtgegkcjllliifabDoor
open Go.RowKit

/-- A block's cells, by a function of their number. -/
def fcells (n : Nat) (f : Nat → Value) : Array Value := ((List.range n).map f).toArray
theorem fcells_at (n : Nat) (f : Nat → Value) (k : Nat) (h : k < n) : (fcells n f)[k]? = some (f k) := by
  simp [fcells, h]
theorem fcells_congr {n : Nat} {f g : Nat → Value} (h : ∀ k, k < n → f k = g k) : fcells n f = fcells n g := by
  unfold fcells
  congr 1
  exact List.map_congr_left fun k hk => h k (by simpa using hk)
theorem fcells_set (n : Nat) (f : Nat → Value) (k : Nat) (v : Value) : (fcells n f).setIfInBounds k v = fcells n (fun i => if i = k then v else f i) := by
  apply Array.ext_getElem?
  intro i
  rw [Array.getElem?_setIfInBounds]
  by_cases hi : i < n
  · rw [fcells_at _ _ _ hi, fcells_at _ _ _ hi]
    by_cases e : k = i
    · subst e; simp [fcells, hi]
    · rw [if_neg e, if_neg (Ne.symm e)]
  · have h1 : (fcells n f)[i]? = none := by simp [fcells]; omega
    have h2 : (fcells n (fun i => if i = k then v else f i))[i]? = none := by simp [fcells]; omega
    rw [h1, h2]
    split
    · rename_i e
      subst e
      rw [if_neg (by simp [fcells]; omega)]
    · rfl
theorem fcells_made (n : Nat) (z : Value) : madeCells #[z] n = fcells n fun _ => z := by
  rw [fcells]
  apply Array.toList_inj.1
  rw [toList_madeCells_one]
  apply List.ext_getElem (by simp)
  intro i h1 h2
  simp

/-- The blocks of one heap: the struct, the pages, the words, the marks of beginnings, the black pages, the roots. -/
structure HL where
  h : Nat
  bp : Nat
  bw : Nat
  bb : Nat
  bk : Nat
  vr : Value
def HL.blocks (L : HL) : List Nat := L.h :: L.bp :: L.bw :: L.bb :: L.bk :: L.vr.ownBlock.toList

/-- What they hold. -/
structure St where
  n : Nat
  size : Nat → Int
  atom : Nat → Bool
  back : Nat → Int
  uns : Nat → Bool
  word : Nat → Int
  beg : Nat → Bool
  blk : Nat → Bool
  roots : List Int
  room : Nat
  trig : Nat
  since : Nat
  colls : Nat
  again : Nat

def St.init (n room : Nat) (t : Nat := 0) : St := ⟨n, fun _ => 0, fun _ => false, fun _ => 0, fun _ => false, fun _ => 0, fun _ => false, fun _ => false, [], room, t, 0, 0, 0⟩

/-- Cell i of the pages' block. -/
def pcell (s : St) (i : Nat) : Value := if i % 4 = 0 then .int .i64 (s.size (i / 4)) else if i % 4 = 1 then .bool (s.atom (i / 4)) else if i % 4 = 2 then .int .i64 (s.back (i / 4)) else .bool (s.uns (i / 4))
def hcells (L : HL) (s : St) : Array Value := #[.slice (some ⟨L.bp, 0, none⟩) s.n s.n, .slice (some ⟨L.bw, 0, none⟩) (s.n * 32) (s.n * 32), .slice (some ⟨L.bb, 0, none⟩) (s.n * 32) (s.n * 32), .slice (some ⟨L.bk, 0, none⟩) s.n s.n, L.vr, .int .i64 s.room, .int .i64 s.trig, .int .i64 (IntKind.i64.wrap s.since), .int .i64 s.colls, .int .i64 s.again]

structure Rep (w : World) (L : HL) (s : St) : Prop where
  hh : w.heap[L.h]? = some (.cells (hcells L s) 59 (0, 0))
  hp : w.heap[L.bp]? = some (.cells (fcells (s.n * 4) (pcell s)) 63 (0, 0))
  hw : w.heap[L.bw]? = some (.cells (fcells (s.n * 32) fun k => .int .i64 (s.word k)) 3 (0, 0))
  hb : w.heap[L.bb]? = some (.cells (fcells (s.n * 32) fun k => .bool (s.beg k)) 4 (0, 0))
  hk : w.heap[L.bk]? = some (.cells (fcells s.n fun k => .bool (s.blk k)) 4 (0, 0))
  hr : w.ownsRow 0 3 1 L.vr s.roots.length (ints s.roots)
  nd : L.blocks.Nodup
  n1 : 1 ≤ s.n
  n2 : s.n ≤ 48
  rt : s.roots.length ≤ 24
  r1 : 1 ≤ s.room
  rm : s.room ≤ 16
  tg : s.trig ≤ 4096
  sb : s.trig ≠ 0 → s.since ≤ 4096

structure Cells (w : World) (L : HL) (s : St) : Prop where
  fp : w.cell? ⟨L.h, 0, none⟩ = some (.slice (some ⟨L.bp, 0, none⟩) s.n s.n)
  fw : w.cell? ⟨L.h, 1, none⟩ = some (.slice (some ⟨L.bw, 0, none⟩) (s.n * 32) (s.n * 32))
  fb : w.cell? ⟨L.h, 2, none⟩ = some (.slice (some ⟨L.bb, 0, none⟩) (s.n * 32) (s.n * 32))
  fk : w.cell? ⟨L.h, 3, none⟩ = some (.slice (some ⟨L.bk, 0, none⟩) s.n s.n)
  fr : w.cell? ⟨L.h, 4, none⟩ = some L.vr
  fm : w.cell? ⟨L.h, 5, none⟩ = some (.int .i64 s.room)
  ft : w.cell? ⟨L.h, 6, none⟩ = some (.int .i64 s.trig)
  fs : w.cell? ⟨L.h, 7, none⟩ = some (.int .i64 (IntKind.i64.wrap s.since))
  fc : w.cell? ⟨L.h, 8, none⟩ = some (.int .i64 s.colls)
  fa : w.cell? ⟨L.h, 9, none⟩ = some (.int .i64 s.again)
  ps : ∀ p, p < s.n → w.cell? ⟨L.bp, p * 4, none⟩ = some (.int .i64 (s.size p))
  pa : ∀ p, p < s.n → w.cell? ⟨L.bp, p * 4 + 1, none⟩ = some (.bool (s.atom p))
  pk : ∀ p, p < s.n → w.cell? ⟨L.bp, p * 4 + 2, none⟩ = some (.int .i64 (s.back p))
  pu : ∀ p, p < s.n → w.cell? ⟨L.bp, p * 4 + 3, none⟩ = some (.bool (s.uns p))
  ws : ∀ k, k < s.n * 32 → w.cell? ⟨L.bw, k, none⟩ = some (.int .i64 (s.word k))
  bs : ∀ k, k < s.n * 32 → w.cell? ⟨L.bb, k, none⟩ = some (.bool (s.beg k))
  ks : ∀ k, k < s.n → w.cell? ⟨L.bk, k, none⟩ = some (.bool (s.blk k))
  hz : ∀ k, w.frozen? ⟨L.h, k, none⟩ = false
  pz : ∀ k, w.frozen? ⟨L.bp, k, none⟩ = false
  wz : ∀ k, w.frozen? ⟨L.bw, k, none⟩ = false
  bz : ∀ k, w.frozen? ⟨L.bb, k, none⟩ = false
  kz : ∀ k, w.frozen? ⟨L.bk, k, none⟩ = false
  l1 : L.h < w.heap.size
  l2 : L.bp < w.heap.size
  l3 : L.bw < w.heap.size
  l4 : L.bb < w.heap.size
  l5 : L.bk < w.heap.size

theorem pcell0 (s : St) (p : Nat) : pcell s (p * 4) = .int .i64 (s.size p) := by
  have e1 : p * 4 % 4 = 0 := by omega
  have e2 : p * 4 / 4 = p := by omega
  simp [pcell, e1, e2]
theorem pcell1 (s : St) (p : Nat) : pcell s (p * 4 + 1) = .bool (s.atom p) := by
  have e1 : (p * 4 + 1) % 4 = 1 := by omega
  have e2 : (p * 4 + 1) / 4 = p := by omega
  simp [pcell, e1, e2]
theorem pcell2 (s : St) (p : Nat) : pcell s (p * 4 + 2) = .int .i64 (s.back p) := by
  have e1 : (p * 4 + 2) % 4 = 2 := by omega
  have e2 : (p * 4 + 2) / 4 = p := by omega
  simp [pcell, e1, e2]
theorem pcell3 (s : St) (p : Nat) : pcell s (p * 4 + 3) = .bool (s.uns p) := by
  have e1 : (p * 4 + 3) % 4 = 3 := by omega
  have e2 : (p * 4 + 3) / 4 = p := by omega
  simp [pcell, e1, e2]

theorem Rep.cells {w : World} {L : HL} {s : St} (r : Rep w L s) : Cells w L s := by
  refine ⟨?_, ?_, ?_, ?_, ?_, ?_, ?_, ?_, ?_, ?_, fun p hp => ?_, fun p hp => ?_, fun p hp => ?_, fun p hp => ?_, fun k hk => ?_, fun k hk => ?_, fun k hk => ?_, fun k => frozen_of_row w _ k _ _ r.hh, fun k => frozen_of_row w _ k _ _ r.hp, fun k => frozen_of_row w _ k _ _ r.hw, fun k => frozen_of_row w _ k _ _ r.hb, fun k => frozen_of_row w _ k _ _ r.hk,
    heap_lt r.hh, heap_lt r.hp, heap_lt r.hw, heap_lt r.hb, heap_lt r.hk⟩
  · rw [cell_of_row w L.h _ _ _ _ r.hh]; rfl
  · rw [cell_of_row w L.h _ _ _ _ r.hh]; rfl
  · rw [cell_of_row w L.h _ _ _ _ r.hh]; rfl
  · rw [cell_of_row w L.h _ _ _ _ r.hh]; rfl
  · rw [cell_of_row w L.h _ _ _ _ r.hh]; rfl
  · rw [cell_of_row w L.h _ _ _ _ r.hh]; rfl
  · rw [cell_of_row w L.h _ _ _ _ r.hh]; rfl
  · rw [cell_of_row w L.h _ _ _ _ r.hh]; rfl
  · rw [cell_of_row w L.h _ _ _ _ r.hh]; rfl
  · rw [cell_of_row w L.h _ _ _ _ r.hh]; rfl
  · rw [cell_of_row w L.bp _ _ _ _ r.hp, fcells_at _ _ _ (by omega), pcell0]
  · rw [cell_of_row w L.bp _ _ _ _ r.hp, fcells_at _ _ _ (by omega), pcell1]
  · rw [cell_of_row w L.bp _ _ _ _ r.hp, fcells_at _ _ _ (by omega), pcell2]
  · rw [cell_of_row w L.bp _ _ _ _ r.hp, fcells_at _ _ _ (by omega), pcell3]
  · rw [cell_of_row w L.bw _ _ _ _ r.hw, fcells_at _ _ _ hk]
  · rw [cell_of_row w L.bb _ _ _ _ r.hb, fcells_at _ _ _ hk]
  · rw [cell_of_row w L.bk _ _ _ _ r.hk, fcells_at _ _ _ hk]

theorem Rep.agree {w w' : World} {L : HL} {s : St} (r : Rep w L s) (ha : ∀ k, k ∈ L.blocks → w'.heap[k]? = w.heap[k]?) : Rep w' L s :=
  ⟨by rw [ha L.h (by simp [HL.blocks])]; exact r.hh, by rw [ha L.bp (by simp [HL.blocks])]; exact r.hp, by rw [ha L.bw (by simp [HL.blocks])]; exact r.hw, by rw [ha L.bb (by simp [HL.blocks])]; exact r.hb, by rw [ha L.bk (by simp [HL.blocks])]; exact r.hk,
    ownsRow_agree r.hr fun k hk => ha k (by simp [HL.blocks, hk]), r.nd, r.n1, r.n2, r.rt, r.r1, r.rm, r.tg, r.sb⟩
theorem Rep.lt {w : World} {L : HL} {s : St} (r : Rep w L s) : ∀ k, k ∈ L.blocks → k < w.heap.size := by
  intro k hk
  simp only [HL.blocks, List.mem_cons, Option.mem_toList] at hk
  rcases hk with rfl | rfl | rfl | rfl | rfl | hk
  · exact heap_lt r.hh
  · exact heap_lt r.hp
  · exact heap_lt r.hw
  · exact heap_lt r.hb
  · exact heap_lt r.hk
  · exact (r.hr.lt k hk).2
theorem Rep.below {w w' : World} {L : HL} {s : St} (r : Rep w L s) (hB : Below w.heap.size w w') : Rep w' L s := r.agree fun k hk => hB.block k (r.lt k hk)
theorem Rep.drew {w : World} {L : HL} {s : St} (r : Rep w L s) : Rep w.drew L s := r.agree fun _ _ => rfl

structure Apart (L : HL) : Prop where
  hp : L.h ≠ L.bp
  hw : L.h ≠ L.bw
  hb : L.h ≠ L.bb
  hk : L.h ≠ L.bk
  pw : L.bp ≠ L.bw
  pb : L.bp ≠ L.bb
  pk : L.bp ≠ L.bk
  wb : L.bw ≠ L.bb
  wk : L.bw ≠ L.bk
  bk : L.bb ≠ L.bk
  r : ∀ k, L.vr.ownBlock = some k → k ≠ L.h ∧ k ≠ L.bp ∧ k ≠ L.bw ∧ k ≠ L.bb ∧ k ≠ L.bk
theorem HL.apart {L : HL} (h : L.blocks.Nodup) : Apart L := by
  simp only [HL.blocks, List.nodup_cons, List.mem_cons, Option.mem_toList, not_or] at h
  obtain ⟨⟨a1, a2, a3, a4, a5⟩, ⟨b1, b2, b3, b4⟩, ⟨c1, c2, c3⟩, ⟨d1, d2⟩, e1, _⟩ := h
  exact ⟨a1, a2, a3, a4, b1, b2, b3, c1, c2, d1, fun k hk => ⟨fun e => a5 (e ▸ hk), fun e => b4 (e ▸ hk), fun e => c3 (e ▸ hk), fun e => d2 (e ▸ hk), fun e => e1 (e ▸ hk)⟩⟩

/-! What a store makes of it. -/
def upd {α : Type} (f : Nat → α) (k : Nat) (v : α) : Nat → α := fun q => if q = k then v else f q
theorem upd_same {α : Type} (f : Nat → α) (k : Nat) (v : α) : upd f k v k = v := if_pos rfl
theorem upd_other {α : Type} (f : Nat → α) (k q : Nat) (v : α) (h : q ≠ k) : upd f k v q = f q := if_neg h

def St.setSz (s : St) (p : Nat) (z : Int) : St := { s with size := upd s.size p z }
def St.setAt (s : St) (p : Nat) (z : Bool) : St := { s with atom := upd s.atom p z }
def St.setBk (s : St) (p : Nat) (z : Int) : St := { s with back := upd s.back p z }
def St.setUn (s : St) (p : Nat) (z : Bool) : St := { s with uns := upd s.uns p z }
def St.setWd (s : St) (k : Nat) (v : Int) : St := { s with word := upd s.word k v }
def St.setBg (s : St) (k : Nat) (v : Bool) : St := { s with beg := upd s.beg k v }
def St.setPg (s : St) (p : Nat) (z : Int) (a : Bool) (b : Int) (u : Bool) : St := (((s.setSz p z).setAt p a).setBk p b).setUn p u

theorem set_heap_other (w : World) (b o k : Nat) (v : Value) (h : k ≠ b) : (w.setCell ⟨b, o, none⟩ v).heap[k]? = w.heap[k]? := heap_setCell_other w ⟨b, o, none⟩ k v h

theorem Rep.setP {w : World} {L : HL} {s s' : St} (r : Rep w L s) (i : Nat) (v : Value) (hn : s'.n = s.n) (h1 : hcells L s' = hcells L s) (h2 : s'.word = s.word) (h3 : s'.beg = s.beg) (h4 : s'.blk = s.blk) (h5 : s'.roots = s.roots) (h6 : s'.room = s.room) (h7 : s'.trig = s.trig) (h8 : s'.since = s.since)
    (hv : ∀ k, k < s.n * 4 → pcell s' k = if k = i then v else pcell s k) : Rep (w.setCell ⟨L.bp, i, none⟩ v) L s' := by
  have a := HL.apart r.nd
  refine ⟨?_, ?_, ?_, ?_, ?_, ?_, r.nd, by rw [hn]; exact r.n1, by rw [hn]; exact r.n2, by rw [h5]; exact r.rt, by rw [h6]; exact r.r1, by rw [h6]; exact r.rm, by rw [h7]; exact r.tg, by rw [h7, h8]; exact r.sb⟩
  · rw [set_heap_other _ _ _ _ _ a.hp, h1]; exact r.hh
  · rw [heap_setCell_same w L.bp i _ _ v r.hp, fcells_set, hn]
    congr 2
    exact fcells_congr fun k hk => (hv k hk).symm
  · rw [set_heap_other _ _ _ _ _ (Ne.symm a.pw), hn, h2]; exact r.hw
  · rw [set_heap_other _ _ _ _ _ (Ne.symm a.pb), hn, h3]; exact r.hb
  · rw [set_heap_other _ _ _ _ _ (Ne.symm a.pk), hn, h4]; exact r.hk
  · rw [h5]; exact ownsRow_agree r.hr fun k hk => set_heap_other _ _ _ _ _ (a.r k hk).2.1

theorem Rep.setSz {w : World} {L : HL} {s : St} (r : Rep w L s) (p : Nat) (z : Int) : Rep (w.setCell ⟨L.bp, p * 4, none⟩ (.int .i64 z)) L (s.setSz p z) := by
  refine r.setP _ _ rfl rfl rfl rfl rfl rfl rfl rfl rfl fun k _ => ?_
  by_cases e : k = p * 4
  · subst e; rw [if_pos rfl, pcell0]; simp [St.setSz, upd]
  · rw [if_neg e]; simp only [pcell, St.setSz, upd]
    by_cases e1 : k % 4 = 0
    · rw [if_pos e1, if_pos e1, if_neg (by omega)]
    · rw [if_neg e1, if_neg e1]
theorem Rep.setAt {w : World} {L : HL} {s : St} (r : Rep w L s) (p : Nat) (z : Bool) : Rep (w.setCell ⟨L.bp, p * 4 + 1, none⟩ (.bool z)) L (s.setAt p z) := by
  refine r.setP _ _ rfl rfl rfl rfl rfl rfl rfl rfl rfl fun k _ => ?_
  by_cases e : k = p * 4 + 1
  · subst e; rw [if_pos rfl, pcell1]; simp [St.setAt, upd]
  · rw [if_neg e]; simp only [pcell, St.setAt, upd]
    by_cases e1 : k % 4 = 1
    · rw [if_pos e1, if_pos e1, if_neg (by omega : ¬ k / 4 = p)]
    · rw [if_neg e1, if_neg e1]
theorem Rep.setBk {w : World} {L : HL} {s : St} (r : Rep w L s) (p : Nat) (z : Int) : Rep (w.setCell ⟨L.bp, p * 4 + 2, none⟩ (.int .i64 z)) L (s.setBk p z) := by
  refine r.setP _ _ rfl rfl rfl rfl rfl rfl rfl rfl rfl fun k _ => ?_
  by_cases e : k = p * 4 + 2
  · subst e; rw [if_pos rfl, pcell2]; simp [St.setBk, upd]
  · rw [if_neg e]; simp only [pcell, St.setBk, upd]
    by_cases e1 : k % 4 = 2
    · rw [if_pos e1, if_pos e1, if_neg (by omega : ¬ k / 4 = p)]
    · rw [if_neg e1, if_neg e1]
theorem Rep.setUn {w : World} {L : HL} {s : St} (r : Rep w L s) (p : Nat) (z : Bool) : Rep (w.setCell ⟨L.bp, p * 4 + 3, none⟩ (.bool z)) L (s.setUn p z) := by
  refine r.setP _ _ rfl rfl rfl rfl rfl rfl rfl rfl rfl fun k _ => ?_
  by_cases e : k = p * 4 + 3
  · subst e; rw [if_pos rfl, pcell3]; simp [St.setUn, upd]
  · rw [if_neg e]; simp only [pcell, St.setUn, upd]
    by_cases e1 : k % 4 = 0 ∨ k % 4 = 1 ∨ k % 4 = 2
    · rcases e1 with e1 | e1 | e1 <;> simp [e1]
    · rw [if_neg (by omega : ¬ k / 4 = p)]
theorem Rep.setPg {w : World} {L : HL} {s : St} (r : Rep w L s) (p : Nat) (z : Int) (a : Bool) (b : Int) (u : Bool) :
    Rep ((((w.setCell ⟨L.bp, p * 4, none⟩ (.int .i64 z)).setCell ⟨L.bp, p * 4 + 1, none⟩ (.bool a)).setCell ⟨L.bp, p * 4 + 2, none⟩ (.int .i64 b)).setCell ⟨L.bp, p * 4 + 3, none⟩ (.bool u)) L (s.setPg p z a b u) :=
  (((r.setSz p z).setAt p a).setBk p b).setUn p u

theorem Rep.setWd {w : World} {L : HL} {s : St} (r : Rep w L s) (k : Nat) (v : Int) : Rep (w.setCell ⟨L.bw, k, none⟩ (.int .i64 v)) L (s.setWd k v) := by
  have a := HL.apart r.nd
  refine ⟨?_, ?_, ?_, ?_, ?_, ?_, r.nd, r.n1, r.n2, r.rt, r.r1, r.rm, r.tg, r.sb⟩
  · rw [set_heap_other _ _ _ _ _ a.hw]; exact r.hh
  · rw [set_heap_other _ _ _ _ _ a.pw]; exact r.hp
  · rw [heap_setCell_same w L.bw k _ _ _ r.hw, fcells_set]
    show _ = some (Obj.cells (fcells (s.n * 32) _) _ _)
    congr 2
    exact fcells_congr fun q _ => by simp only [St.setWd, upd]; split <;> rfl
  · rw [set_heap_other _ _ _ _ _ (Ne.symm a.wb)]; exact r.hb
  · rw [set_heap_other _ _ _ _ _ (Ne.symm a.wk)]; exact r.hk
  · exact ownsRow_agree r.hr fun k hk => set_heap_other _ _ _ _ _ (a.r k hk).2.2.1
theorem Rep.setBg {w : World} {L : HL} {s : St} (r : Rep w L s) (k : Nat) (v : Bool) : Rep (w.setCell ⟨L.bb, k, none⟩ (.bool v)) L (s.setBg k v) := by
  have a := HL.apart r.nd
  refine ⟨?_, ?_, ?_, ?_, ?_, ?_, r.nd, r.n1, r.n2, r.rt, r.r1, r.rm, r.tg, r.sb⟩
  · rw [set_heap_other _ _ _ _ _ a.hb]; exact r.hh
  · rw [set_heap_other _ _ _ _ _ a.pb]; exact r.hp
  · rw [set_heap_other _ _ _ _ _ a.wb]; exact r.hw
  · rw [heap_setCell_same w L.bb k _ _ _ r.hb, fcells_set]
    show _ = some (Obj.cells (fcells (s.n * 32) _) _ _)
    congr 2
    exact fcells_congr fun q _ => by simp only [St.setBg, upd]; split <;> rfl
  · rw [set_heap_other _ _ _ _ _ (Ne.symm a.bk)]; exact r.hk
  · exact ownsRow_agree r.hr fun k hk => set_heap_other _ _ _ _ _ (a.r k hk).2.2.2.1

def St.grown (s : St) (sz : Nat) : St := { s with since := s.since + sz }
theorem Rep.grown {w : World} {L : HL} {s : St} (r : Rep w L s) (sz : Nat) (v : Int) (hv : v = IntKind.i64.wrap ((s.since + sz : Nat) : Int)) (hb : s.trig ≠ 0 → s.since + sz ≤ 4096) : Rep (w.setCell ⟨L.h, 7, none⟩ (.int .i64 v)) L (s.grown sz) := by
  have a := HL.apart r.nd
  refine ⟨?_, ?_, ?_, ?_, ?_, ?_, r.nd, r.n1, r.n2, r.rt, r.r1, r.rm, r.tg, hb⟩
  · rw [heap_setCell_same w L.h 7 _ _ _ r.hh, hv]; rfl
  · rw [set_heap_other _ _ _ _ _ (Ne.symm a.hp)]; exact r.hp
  · rw [set_heap_other _ _ _ _ _ (Ne.symm a.hw)]; exact r.hw
  · rw [set_heap_other _ _ _ _ _ (Ne.symm a.hb)]; exact r.hb
  · rw [set_heap_other _ _ _ _ _ (Ne.symm a.hk)]; exact r.hk
  · exact ownsRow_agree r.hr fun k hk => set_heap_other _ _ _ _ _ (a.r k hk).1

/-- The heap at L, behind a call: it holds s', in blocks of its own or new ones; no other block has turned. -/
def HSt (w : World) (L : HL) (s' : St) (w' : World) : Prop := ∃ L' : HL, L'.h = L.h ∧ Rep w' L' s' ∧ (∀ k, k ∈ L'.blocks → k ∈ L.blocks ∨ w.heap.size ≤ k) ∧ Touch L.blocks w w'
theorem HSt.same {w w' : World} {L : HL} {s : St} (r : Rep w L s) (hB : Below w.heap.size w w') : HSt w L s w' := ⟨L, rfl, r.below hB, fun _ hk => .inl hk, Touch.of_below hB⟩
theorem HSt.of {w w' : World} {L : HL} {s : St} (r : Rep w' L s) (t : Touch L.blocks w w') : HSt w L s w' := ⟨L, rfl, r, fun _ hk => .inl hk, t⟩
theorem HSt.trans {w w1 w2 : World} {L L1 : HL} {s2 : St} (e : L1.h = L.h) (hin : ∀ k, k ∈ L1.blocks → k ∈ L.blocks ∨ w.heap.size ≤ k) (t : Touch L.blocks w w1) (h : HSt w1 L1 s2 w2) : HSt w L s2 w2 := by
  obtain ⟨L2, e2, r2, i2, t2⟩ := h
  refine ⟨L2, e2.trans e, r2, fun k hk => ?_, t.trans t2 hin⟩
  rcases i2 k hk with x | x
  · exact hin k x
  · exact .inr (Nat.le_trans t.size x)
end Go.Proofs.YtgegkcjllliifabDoor
