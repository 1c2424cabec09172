/-
  The heap's memory: 'Lay' (which blocks), 'St' (what they hold), 'Rep' (they hold it).
-/
import Derived.Test.YtehbcchebbodlabDoorSmall
namespace Go.Proofs.YtehbcchebbodlabDoor
open Go.RowKit

/-- The blocks of one heap: the struct, the pages, the words, the marks of beginnings. -/
structure Lay where
  h : Nat
  bp : Nat
  bw : Nat
  bb : Nat

/-- What they hold. -/
structure St where
  n : Nat
  size : Nat → Int
  atom : Nat → Bool
  back : Nat → Int
  word : Nat → Int
  beg : Nat → Bool

def St.init (n : Nat) : St := ⟨n, fun _ => 0, fun _ => false, fun _ => 0, fun _ => 0, fun _ => false⟩

structure Rep (w : World) (L : Lay) (s : St) : Prop where
  d1 : L.bp ≠ L.bw
  d2 : L.bp ≠ L.bb
  d3 : L.bw ≠ L.bb
  d4 : L.h ≠ L.bp
  d5 : L.h ≠ L.bw
  d6 : L.h ≠ L.bb
  n1 : 1 ≤ s.n
  n2 : s.n ≤ 48
  fp : w.cell? ⟨L.h, 0, none⟩ = some (.slice (some ⟨L.bp, 0, none⟩) s.n s.n)
  fw : w.cell? ⟨L.h, 1, none⟩ = some (.slice (some ⟨L.bw, 0, none⟩) (s.n * 32) (s.n * 32))
  fb : w.cell? ⟨L.h, 2, none⟩ = some (.slice (some ⟨L.bb, 0, none⟩) (s.n * 32) (s.n * 32))
  ps : ∀ p, p < s.n → w.cell? ⟨L.bp, p * 3, none⟩ = some (.int .i64 (s.size p))
  pa : ∀ p, p < s.n → w.cell? ⟨L.bp, p * 3 + 1, none⟩ = some (.bool (s.atom p))
  pk : ∀ p, p < s.n → w.cell? ⟨L.bp, p * 3 + 2, none⟩ = some (.int .i64 (s.back p))
  pz : ∀ k, w.frozen? ⟨L.bp, k, none⟩ = false
  ws : ∀ k, k < s.n * 32 → w.cell? ⟨L.bw, k, none⟩ = some (.int .i64 (s.word k))
  wz : ∀ k, w.frozen? ⟨L.bw, k, none⟩ = false
  bs : ∀ k, k < s.n * 32 → w.cell? ⟨L.bb, k, none⟩ = some (.bool (s.beg k))
  bz : ∀ k, w.frozen? ⟨L.bb, k, none⟩ = false

/-- All blocks but this heap's are as they were; none has gone. -/
structure Keeps (L : Lay) (w w' : World) : Prop where
  os : w'.os = w.os
  tape : w'.tape = w.tape
  output : w'.output = w.output
  size : w.heap.size ≤ w'.heap.size
  block : ∀ k, k < w.heap.size → k ≠ L.bp → k ≠ L.bw → k ≠ L.bb → w'.heap[k]? = w.heap[k]?

theorem Keeps.refl (L : Lay) (w : World) : Keeps L w w := ⟨rfl, rfl, rfl, Nat.le_refl _, fun _ _ _ _ _ => rfl⟩
theorem Keeps.trans {L : Lay} {a b c : World} (h : Keeps L a b) (k : Keeps L b c) : Keeps L a c :=
  ⟨k.os.trans h.os, k.tape.trans h.tape, k.output.trans h.output, Nat.le_trans h.size k.size, fun i hi x y z => (k.block i (Nat.lt_of_lt_of_le hi h.size) x y z).trans (h.block i hi x y z)⟩
theorem Keeps.of_below {L : Lay} {w w' : World} (h : Below w.heap.size w w') : Keeps L w w' := ⟨h.os, h.tape, h.output, h.size, fun k hk _ _ _ => h.block k hk⟩
theorem Keeps.below {L : Lay} {B : Nat} {w w' : World} (h : Keeps L w w') (hB : B ≤ w.heap.size) (p : B ≤ L.bp) (q : B ≤ L.bw) (r : B ≤ L.bb) : Below B w w' :=
  ⟨h.os, h.tape, h.output, h.size, fun k hk => h.block k (by omega) (by omega) (by omega) (by omega)⟩

theorem lt_of_cell {w : World} {b o : Nat} {v : Value} (h : w.cell? ⟨b, o, none⟩ = some v) : b < w.heap.size := World.block_lt_of_cell? _ _ h

theorem Rep.lts {w : World} {L : Lay} {s : St} (r : Rep w L s) : L.h < w.heap.size ∧ L.bp < w.heap.size ∧ L.bw < w.heap.size ∧ L.bb < w.heap.size :=
  ⟨lt_of_cell r.fp, lt_of_cell (r.ps 0 (by have := r.n1; omega)), lt_of_cell (r.ws 0 (by have := r.n1; omega)), lt_of_cell (r.bs 0 (by have := r.n1; omega))⟩

/-- What only makes new memory leaves a heap as it is. -/
theorem Rep.below {w w' : World} {L : Lay} {s : St} (r : Rep w L s) (h : Below w.heap.size w w') : Rep w' L s := by
  obtain ⟨h1, h2, h3, h4⟩ := r.lts
  exact ⟨r.d1, r.d2, r.d3, r.d4, r.d5, r.d6, r.n1, r.n2,
    by rw [h.cell (p := ⟨L.h, 0, none⟩) h1]; exact r.fp, by rw [h.cell (p := ⟨L.h, 1, none⟩) h1]; exact r.fw, by rw [h.cell (p := ⟨L.h, 2, none⟩) h1]; exact r.fb,
    fun p hp => by rw [h.cell (p := ⟨L.bp, p * 3, none⟩) h2]; exact r.ps p hp,
    fun p hp => by rw [h.cell (p := ⟨L.bp, p * 3 + 1, none⟩) h2]; exact r.pa p hp,
    fun p hp => by rw [h.cell (p := ⟨L.bp, p * 3 + 2, none⟩) h2]; exact r.pk p hp,
    fun k => by rw [h.frozen (p := ⟨L.bp, k, none⟩) h2]; exact r.pz k,
    fun k hk => by rw [h.cell (p := ⟨L.bw, k, none⟩) h3]; exact r.ws k hk,
    fun k => by rw [h.frozen (p := ⟨L.bw, k, none⟩) h3]; exact r.wz k,
    fun k hk => by rw [h.cell (p := ⟨L.bb, k, none⟩) h4]; exact r.bs k hk,
    fun k => by rw [h.frozen (p := ⟨L.bb, k, none⟩) h4]; exact r.bz k⟩

theorem made_at (z : Array Value) (m k : Nat) (h : k < m) : (madeCells z m)[k]? = some (z[k % z.size]!) := by
  simp [madeCells, h]

/-- The blocks that New lays. -/
def PB (n : Nat) : Obj := .cells (madeCells #[.int .i64 0, .bool false, .int .i64 0] (n * 3)) 45
def WB (n : Nat) : Obj := .cells (madeCells #[.int .i64 0] n) 3
def BB (n : Nat) : Obj := .cells (madeCells #[.bool false] n) 4
def HB (n bp bw bb : Nat) : Obj := .cells #[.slice (some ⟨bp, 0, none⟩) n n, .slice (some ⟨bw, 0, none⟩) (n * 32) (n * 32), .slice (some ⟨bb, 0, none⟩) (n * 32) (n * 32)] 40

theorem rep_init {w : World} (L : Lay) (n : Nat) (n1 : 1 ≤ n) (n2 : n ≤ 48) (hp : w.heap[L.bp]? = some (PB n)) (hw : w.heap[L.bw]? = some (WB (n * 32))) (hb : w.heap[L.bb]? = some (BB (n * 32)))
    (hh : w.heap[L.h]? = some (HB n L.bp L.bw L.bb)) (d1 : L.bp ≠ L.bw) (d2 : L.bp ≠ L.bb) (d3 : L.bw ≠ L.bb) (d4 : L.h ≠ L.bp) (d5 : L.h ≠ L.bw) (d6 : L.h ≠ L.bb) : Rep w L (St.init n) := by
  refine ⟨d1, d2, d3, d4, d5, d6, n1, n2, ?_, ?_, ?_, ?_, ?_, ?_, fun k => frozen_of_row w L.bp k _ _ hp, ?_, fun k => frozen_of_row w L.bw k _ _ hw, ?_, fun k => frozen_of_row w L.bb k _ _ hb⟩
  · rw [cell_of_row w L.h 0 _ _ _ hh]; rfl
  · rw [cell_of_row w L.h 1 _ _ _ hh]; rfl
  · rw [cell_of_row w L.h 2 _ _ _ hh]; rfl
  · intro p hq
    have hq : p < n := hq
    have e : p * 3 % 3 = 0 := by omega
    rw [cell_of_row w L.bp _ _ _ _ hp, made_at _ _ _ (by omega)]
    simp [St.init, e]
  · intro p hq
    have hq : p < n := hq
    have e : (p * 3 + 1) % 3 = 1 := by omega
    rw [cell_of_row w L.bp _ _ _ _ hp, made_at _ _ _ (by omega)]
    simp [St.init, e]
  · intro p hq
    have hq : p < n := hq
    have e : (p * 3 + 2) % 3 = 2 := by omega
    rw [cell_of_row w L.bp _ _ _ _ hp, made_at _ _ _ (by omega)]
    simp [St.init, e]
  · intro k hk
    have hk : k < n * 32 := hk
    rw [cell_of_row w L.bw _ _ _ _ hw, made_at _ _ _ hk]
    simp [St.init, Nat.mod_one]
  · intro k hk
    have hk : k < n * 32 := hk
    rw [cell_of_row w L.bb _ _ _ _ hb, made_at _ _ _ hk]
    simp [St.init, Nat.mod_one]

end Go.Proofs.YtehbcchebbodlabDoor
