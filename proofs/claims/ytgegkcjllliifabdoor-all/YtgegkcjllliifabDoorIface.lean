/-
  What the laws ask of the program's heap, in the model's words; and how the law's own memory is told apart: each block has an owner.
-/
import Derived.Test.YtgegkcjllliifabDoorLawSmall
namespace Go.Proofs.YtgegkcjllliifabDoor
open Go.RowKit

/-- What is counted beside the model. -/
structure Cn where
  again : Int
  used : Int
  unswept : Int

structure CountOk (m : Mo) (c : Cn) : Prop where
  a0 : 0 ≤ c.again
  a1 : c.again ≤ (m.kept : Int) + 1
  a2 : m.kept ≤ m.stack → c.again = 0
  u1 : (m.busy : Int) ≤ c.used
  u2 : c.used ≤ (m.pages : Int)
  s0 : 0 ≤ c.unswept
  s1 : c.unswept ≤ c.used
  s2 : c.used - (m.busy : Int) ≤ c.unswept

/-- Bounds that a heap's make gives. -/
structure Geo (m : Mo) : Prop where
  p1 : 1 ≤ m.pages
  p2 : m.pages ≤ 48
  objs : m.objs.length ≤ 2000
  pos : ∀ i (h : i < m.objs.length), 0 ≤ (m.objs[i]).pos ∧ (m.objs[i]).pos ≤ 2000000 ∧ (m.objs[i]).ws.length ≤ 1536
  roots : m.roots.length ≤ 24
  stack : m.stack ≤ 16
  trig : m.trig ≤ 4096
  al : ∀ i (h : i < m.objs.length), (m.objs[i]).pos % 8 = 0
  own : ∀ (i k : Nat) (h : i < m.objs.length), k < (m.objs[i]).ws.length → m.find ((m.objs[i]).pos + 8 * (k : Int)) = i

/-- The heap at block a, of blocks B, behind a call: it holds m' and c', in blocks of its own or new ones; no other block has turned. -/
def HTo (is : World → List Nat → Nat → Mo → Cn → Prop) (w : World) (B : List Nat) (a : Nat) (m : Mo) (c : Cn) (w' : World) : Prop :=
  ∃ B' : List Nat, is w' B' a m c ∧ (∀ k, k ∈ B' → k ∈ B ∨ w.heap.size ≤ k) ∧ Touch B w w'

/-- The pages of a list of bools that are set. -/
def blackList (bl : List Bool) : List Int := ((List.range bl.length).filter fun k => bl.getD k false).map fun (k : Nat) => (k : Int)

structure HeapI where
  is : World → List Nat → Nat → Mo → Cn → Prop
  glob : World → Prop
  ng : Nat
  globFrame : ∀ {w w' : World}, glob w → (∀ k, k < ng → w'.heap[k]? = w.heap[k]?) → glob w'
  frame : ∀ {w w' : World} {B : List Nat} {a : Nat} {m : Mo} {c : Cn}, is w B a m c → (∀ k, k ∈ B → w'.heap[k]? = w.heap[k]?) → is w' B a m c
  lt : ∀ {w : World} {B : List Nat} {a : Nat} {m : Mo} {c : Cn}, is w B a m c → ∀ k, k ∈ B → k < w.heap.size
  geo : ∀ {w : World} {B : List Nat} {a : Nat} {m : Mo} {c : Cn}, is w B a m c → Geo m
  cok : ∀ {w : World} {B : List Nat} {a : Nat} {m : Mo} {c : Cn}, is w B a m c → CountOk m c
  new_ok : ∀ (n r t : Nat) (w : World), glob w → 1 ≤ n → n ≤ 48 → 1 ≤ r → r ≤ 16 → t ≤ 4096 →
    Calls Tryd.prog 33 #[.int .i64 n, .int .i64 r, .int .i64 t] w fun e w' => ∃ B a c, e = .returned (.tuple #[.pointer (some ⟨a, 0, none⟩), .int .i64 0]) ∧ is w' B a (Mo.init n r t) c ∧ (∀ k, k ∈ B → w.heap.size ≤ k) ∧ Below w.heap.size w w'
  new_err : ∀ (n r t : Int) (w : World), glob w → (n < 1 ∨ 48 < n ∨ r < 1 ∨ 16 < r ∨ t < 0 ∨ 4096 < t) →
    Calls Tryd.prog 33 #[.int .i64 n, .int .i64 r, .int .i64 t] w fun e w' => e = .returned (.tuple #[.pointer none, .int .i64 1]) ∧ Below w.heap.size w w'
  alloc_size : ∀ {w : World} {B : List Nat} {a : Nat} {m : Mo} {c : Cn} (n : Int) (at' : Bool), glob w → is w B a m c → (n < 1 ∨ (m.pages : Int) * 32 < n) →
    Calls Tryd.prog 20 #[.pointer (some ⟨a, 0, none⟩), .int .i64 n, .bool at'] w fun e w' => e = .returned (.tuple #[.int .i64 0, .int .i64 2]) ∧ HTo is w B a m c w'
  alloc : ∀ {w : World} {B : List Nat} {a : Nat} {m : Mo} {c : Cn} (n words : Nat) (at' : Bool), glob w → is w B a m c → m.runs ≤ 4611686018427387904 → 1 ≤ n → n ≤ m.pages * 32 → sizeOf' n = words →
    Calls Tryd.prog 20 #[.pointer (some ⟨a, 0, none⟩), .int .i64 n, .bool at'] w fun e w' => ∃ m1 err, AheadTo m words at' m1 err ∧
      ((err ≠ 0 ∧ e = .returned (.tuple #[.int .i64 0, .int .i64 err]) ∧ ∃ c', HTo is w B a m1 c' w') ∨ (err = 0 ∧ ∃ x c', e = .returned (.tuple #[.int .i64 x, .int .i64 0]) ∧ m1.fits x words at' = true ∧ HTo is w B a (m1.lay x words at') c' w'))
  free_none : ∀ {w : World} {B : List Nat} {a : Nat} {m : Mo} {c : Cn} (x : Int), glob w → is w B a m c → m.find x = -1 →
    Calls Tryd.prog 24 #[.pointer (some ⟨a, 0, none⟩), .int .i64 x] w fun e w' => e = .returned (.int .i64 5) ∧ HTo is w B a m c w'
  free_base : ∀ {w : World} {B : List Nat} {a : Nat} {m : Mo} {c : Cn} (x : Int) (i : Nat) (hi : i < m.objs.length), glob w → is w B a m c → m.find x = i → (m.objs[i]).pos ≠ x →
    Calls Tryd.prog 24 #[.pointer (some ⟨a, 0, none⟩), .int .i64 x] w fun e w' => e = .returned (.int .i64 6) ∧ HTo is w B a m c w'
  free_ok : ∀ {w : World} {B : List Nat} {a : Nat} {m : Mo} {c : Cn} (x : Int) (i : Nat) (hi : i < m.objs.length), glob w → is w B a m c → m.find x = i → (m.objs[i]).pos = x →
    Calls Tryd.prog 24 #[.pointer (some ⟨a, 0, none⟩), .int .i64 x] w fun e w' => e = .returned (.int .i64 0) ∧ ∃ c', HTo is w B a { m with objs := m.objs.eraseIdx i } c' w'
  base_none : ∀ {w : World} {B : List Nat} {a : Nat} {m : Mo} {c : Cn} (x : Int), glob w → is w B a m c → m.find x = -1 →
    Calls Tryd.prog 71 #[.pointer (some ⟨a, 0, none⟩), .int .i64 x] w fun e w' => e = .returned (.tuple #[.int .i64 0, .int .i64 5]) ∧ HTo is w B a m c w'
  base_ok : ∀ {w : World} {B : List Nat} {a : Nat} {m : Mo} {c : Cn} (x : Int) (i : Nat) (hi : i < m.objs.length), glob w → is w B a m c → m.find x = i →
    Calls Tryd.prog 71 #[.pointer (some ⟨a, 0, none⟩), .int .i64 x] w fun e w' => e = .returned (.tuple #[.int .i64 (m.objs[i]).pos, .int .i64 0]) ∧ HTo is w B a m c w'
  size_none : ∀ {w : World} {B : List Nat} {a : Nat} {m : Mo} {c : Cn} (x : Int), glob w → is w B a m c → m.find x = -1 →
    Calls Tryd.prog 21 #[.pointer (some ⟨a, 0, none⟩), .int .i64 x] w fun e w' => e = .returned (.tuple #[.int .i64 0, .int .i64 5]) ∧ HTo is w B a m c w'
  size_ok : ∀ {w : World} {B : List Nat} {a : Nat} {m : Mo} {c : Cn} (x : Int) (i : Nat) (hi : i < m.objs.length), glob w → is w B a m c → m.find x = i →
    Calls Tryd.prog 21 #[.pointer (some ⟨a, 0, none⟩), .int .i64 x] w fun e w' => e = .returned (.tuple #[.int .i64 (m.objs[i]).ws.length, .int .i64 0]) ∧ HTo is w B a m c w'
  load_err : ∀ {w : World} {B : List Nat} {a : Nat} {m : Mo} {c : Cn} (x : Int), glob w → is w B a m c → (x % 8 ≠ 0 ∨ m.find x = -1) →
    Calls Tryd.prog 29 #[.pointer (some ⟨a, 0, none⟩), .int .i64 x] w fun e w' => e = .returned (.tuple #[.int .i64 0, .int .i64 (if x % 8 ≠ 0 then 4 else 5)]) ∧ HTo is w B a m c w'
  load_ok : ∀ {w : World} {B : List Nat} {a : Nat} {m : Mo} {c : Cn} (x : Int) (i k : Nat) (hi : i < m.objs.length) (hk : k < (m.objs[i]).ws.length), glob w → is w B a m c → x % 8 = 0 → m.find x = i → (x - (m.objs[i]).pos) / 8 = k →
    Calls Tryd.prog 29 #[.pointer (some ⟨a, 0, none⟩), .int .i64 x] w fun e w' => e = .returned (.tuple #[.int .i64 ((m.objs[i]).ws[k]), .int .i64 0]) ∧ HTo is w B a m c w'
  store_err : ∀ {w : World} {B : List Nat} {a : Nat} {m : Mo} {c : Cn} (x y : Int), glob w → is w B a m c → (x % 8 ≠ 0 ∨ m.find x = -1) →
    Calls Tryd.prog 22 #[.pointer (some ⟨a, 0, none⟩), .int .i64 x, .int .i64 y] w fun e w' => e = .returned (.int .i64 (if x % 8 ≠ 0 then 4 else 5)) ∧ HTo is w B a m c w'
  store_ok : ∀ {w : World} {B : List Nat} {a : Nat} {m : Mo} {c : Cn} (x y : Int) (i k : Nat) (hi : i < m.objs.length) (_ : k < (m.objs[i]).ws.length), glob w → is w B a m c → x % 8 = 0 → m.find x = i → (x - (m.objs[i]).pos) / 8 = k →
    Calls Tryd.prog 22 #[.pointer (some ⟨a, 0, none⟩), .int .i64 x, .int .i64 y] w fun e w' => e = .returned (.int .i64 0) ∧ ∃ c', HTo is w B a { m with objs := m.objs.set i { m.objs[i] with ws := (m.objs[i]).ws.set k y } } c' w'
  push_full : ∀ {w : World} {B : List Nat} {a : Nat} {m : Mo} {c : Cn} (x : Int), glob w → is w B a m c → 24 ≤ m.roots.length →
    Calls Tryd.prog 19 #[.pointer (some ⟨a, 0, none⟩), .int .i64 x] w fun e w' => e = .returned (.int .i64 7) ∧ HTo is w B a m c w'
  push_ok : ∀ {w : World} {B : List Nat} {a : Nat} {m : Mo} {c : Cn} (x : Int), glob w → is w B a m c → m.roots.length < 24 →
    Calls Tryd.prog 19 #[.pointer (some ⟨a, 0, none⟩), .int .i64 x] w fun e w' => e = .returned (.int .i64 0) ∧ ∃ c', HTo is w B a { m with roots := m.roots ++ [x] } c' w'
  pop_none : ∀ {w : World} {B : List Nat} {a : Nat} {m : Mo} {c : Cn}, glob w → is w B a m c → m.roots = [] →
    Calls Tryd.prog 26 #[.pointer (some ⟨a, 0, none⟩)] w fun e w' => e = .returned (.tuple #[.int .i64 0, .int .i64 8]) ∧ HTo is w B a m c w'
  pop_ok : ∀ {w : World} {B : List Nat} {a : Nat} {m : Mo} {c : Cn} (q : Nat), glob w → is w B a m c → m.roots.length = q + 1 →
    Calls Tryd.prog 26 #[.pointer (some ⟨a, 0, none⟩)] w fun e w' => e = .returned (.tuple #[.int .i64 (m.roots.getD q 0), .int .i64 0]) ∧ ∃ c', HTo is w B a { m with roots := m.roots.take q } c' w'
  set_none : ∀ {w : World} {B : List Nat} {a : Nat} {m : Mo} {c : Cn} (i x : Int), glob w → is w B a m c → (i < 0 ∨ (m.roots.length : Int) ≤ i) →
    Calls Tryd.prog 23 #[.pointer (some ⟨a, 0, none⟩), .int .i64 i, .int .i64 x] w fun e w' => e = .returned (.int .i64 9) ∧ HTo is w B a m c w'
  set_ok : ∀ {w : World} {B : List Nat} {a : Nat} {m : Mo} {c : Cn} (i : Nat) (x : Int), glob w → is w B a m c → i < m.roots.length →
    Calls Tryd.prog 23 #[.pointer (some ⟨a, 0, none⟩), .int .i64 i, .int .i64 x] w fun e w' => e = .returned (.int .i64 0) ∧ ∃ c', HTo is w B a { m with roots := m.roots.set i x } c' w'
  collect : ∀ {w : World} {B : List Nat} {a : Nat} {m : Mo} {c : Cn}, glob w → is w B a m c → m.runs ≤ 4611686018427387904 →
    Calls Tryd.prog 28 #[.pointer (some ⟨a, 0, none⟩)] w fun e w' => e = .returned (.tuple #[]) ∧ ∃ on c', IsReach m on ∧ c'.unswept = c'.used ∧ HTo is w B a (m.collect on) c' w'
  sweep : ∀ {w : World} {B : List Nat} {a : Nat} {m : Mo} {c : Cn} (n : Int), glob w → is w B a m c → n ≤ 9223372036854775807 →
    Calls Tryd.prog 42 #[.pointer (some ⟨a, 0, none⟩), .int .i64 n] w fun e w' => e = .returned (.tuple #[]) ∧ ∃ c', (n ≤ 0 → c' = c) ∧ (0 < n → c'.again = c.again ∧ c'.unswept ≤ c.unswept ∧ (n ≤ c.unswept - c'.unswept ∨ c'.unswept = 0)) ∧ HTo is w B a m c' w'
  walk : ∀ {w : World} {B : List Nat} {a : Nat} {m : Mo} {c : Cn}, glob w → is w B a m c →
    Calls Tryd.prog 30 #[.pointer (some ⟨a, 0, none⟩)] w fun e w' => ∃ ao, e = .returned (.slice ao m.objs.length m.objs.length) ∧ IntsOf w' (.slice ao m.objs.length m.objs.length) (m.objs.map Ob.pos) ∧ ∃ B', is w' B' a m c ∧ (∀ k, k ∈ B' → k ∈ B ∨ w.heap.size ≤ k) ∧ Touch B w w' ∧ ∀ g, ao = some g → w.heap.size ≤ g.block ∧ g.block ∉ B'
  black : ∀ {w : World} {B : List Nat} {a : Nat} {m : Mo} {c : Cn}, glob w → is w B a m c →
    Calls Tryd.prog 76 #[.pointer (some ⟨a, 0, none⟩)] w fun e w' => ∃ ao, e = .returned (.slice ao (blackList m.black).length (blackList m.black).length) ∧ IntsOf w' (.slice ao (blackList m.black).length (blackList m.black).length) (blackList m.black) ∧ ∃ B', is w' B' a m c ∧ (∀ k, k ∈ B' → k ∈ B ∨ w.heap.size ≤ k) ∧ Touch B w w' ∧ ∀ g, ao = some g → w.heap.size ≤ g.block ∧ g.block ∉ B'
  counts : ∀ {w : World} {B : List Nat} {a : Nat} {m : Mo} {c : Cn}, glob w → is w B a m c →
    Calls Tryd.prog 43 #[.pointer (some ⟨a, 0, none⟩)] w fun e w' => e = .returned (.agg #[.int .i64 m.objs.length, .int .i64 m.words, .int .i64 m.runs, .int .i64 c.again, .int .i64 c.used, .int .i64 c.unswept]) ∧ HTo is w B a m c w'


/-- All that is not lab's is as it was, and belongs to whom it belonged. -/
structure Fr (lab : Nat × Nat) (w : World) (O : Nat → Nat × Nat) (w' : World) (O' : Nat → Nat × Nat) : Prop where
  os : w'.os = w.os
  tape : w'.tape = w.tape
  output : w'.output = w.output
  size : w.heap.size ≤ w'.heap.size
  own : ∀ k, k < w.heap.size → O' k = O k
  block : ∀ k, k < w.heap.size → O k ≠ lab → w'.heap[k]? = w.heap[k]?
/-- New blocks are lab's. -/
def ext (w : World) (O : Nat → Nat × Nat) (lab : Nat × Nat) : Nat → Nat × Nat := fun k => if k < w.heap.size then O k else lab
theorem ext_old (w : World) (O : Nat → Nat × Nat) (lab : Nat × Nat) (k : Nat) (h : k < w.heap.size) : ext w O lab k = O k := if_pos h
theorem ext_new (w : World) (O : Nat → Nat × Nat) (lab : Nat × Nat) (k : Nat) (h : w.heap.size ≤ k) : ext w O lab k = lab := if_neg (by omega)

theorem Fr.of_touch {B : List Nat} {w w' : World} {O : Nat → Nat × Nat} {lab : Nat × Nat} (t : Touch B w w') (hB : ∀ k, k ∈ B → O k = lab) : Fr lab w O w' (ext w O lab) :=
  ⟨t.os, t.tape, t.output, t.size, fun k hk => ext_old w O lab k hk, fun k hk hne => t.block k hk fun e => hne (hB k e)⟩
theorem Fr.of_below {w w' : World} {O : Nat → Nat × Nat} (lab : Nat × Nat) (hB : Below w.heap.size w w') : Fr lab w O w' (ext w O lab) :=
  ⟨hB.os, hB.tape, hB.output, hB.size, fun k hk => ext_old w O lab k hk, fun k hk _ => hB.block k hk⟩

def Blk (w : World) (O : Nat → Nat × Nat) (l : Nat × Nat) (b : Nat) (o : Obj) : Prop := w.heap[b]? = some o ∧ O b = l
def Row (w : World) (O : Nat → Nat × Nat) (l : Nat × Nat) (e size : Nat) (v : Value) (n : Nat) (xs : List Value) : Prop := w.ownsRow 0 e size v n xs ∧ ∀ k, v.ownBlock = some k → O k = l
def Imp (H : HeapI) (w : World) (O : Nat → Nat × Nat) (l : Nat × Nat) (B : List Nat) (a : Nat) (m : Mo) (c : Cn) : Prop := H.is w B a m c ∧ ∀ k, k ∈ B → O k = l
def Ref (w : World) (O : Nat → Nat × Nat) (l : Nat × Nat) (R : RL) (m : Mo) : Prop := RefIs w R m ∧ ∀ k, k ∈ R.blocks → O k = l

theorem Blk.fr {w w' : World} {O O' : Nat → Nat × Nat} {l lab : Nat × Nat} {b : Nat} {o : Obj} (h : Blk w O l b o) (f : Fr lab w O w' O') (hne : l ≠ lab) : Blk w' O' l b o := by
  have hb := heap_lt h.1
  exact ⟨by rw [f.block b hb (by rw [h.2]; exact hne)]; exact h.1, by rw [f.own b hb]; exact h.2⟩
theorem Row.fr {w w' : World} {O O' : Nat → Nat × Nat} {l lab : Nat × Nat} {e size : Nat} {v : Value} {n : Nat} {xs : List Value} (h : Row w O l e size v n xs) (f : Fr lab w O w' O') (hne : l ≠ lab) : Row w' O' l e size v n xs := by
  refine ⟨ownsRow_agree h.1 fun k hk => ?_, fun k hk => ?_⟩
  · have hb := (h.1.lt k hk).2
    exact f.block k hb (by rw [h.2 k hk]; exact hne)
  · rw [f.own k (h.1.lt k hk).2]; exact h.2 k hk
theorem Imp.fr {H : HeapI} {w w' : World} {O O' : Nat → Nat × Nat} {l lab : Nat × Nat} {B : List Nat} {a : Nat} {m : Mo} {c : Cn} (h : Imp H w O l B a m c) (f : Fr lab w O w' O') (hne : l ≠ lab) : Imp H w' O' l B a m c := by
  refine ⟨H.frame h.1 fun k hk => f.block k (H.lt h.1 k hk) (by rw [h.2 k hk]; exact hne), fun k hk => ?_⟩
  rw [f.own k (H.lt h.1 k hk)]; exact h.2 k hk
theorem Ref.fr {w w' : World} {O O' : Nat → Nat × Nat} {l lab : Nat × Nat} {R : RL} {m : Mo} (h : Ref w O l R m) (f : Fr lab w O w' O') (hne : l ≠ lab) : Ref w' O' l R m := by
  refine ⟨h.1.agree fun k hk => f.block k (h.1.lt k hk) (by rw [h.2 k hk]; exact hne), fun k hk => ?_⟩
  rw [f.own k (h.1.lt k hk)]; exact h.2 k hk
end Go.Proofs.YtgegkcjllliifabDoor
