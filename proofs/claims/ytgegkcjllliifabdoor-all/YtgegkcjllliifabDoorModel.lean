/-
  The document's model, as plain Lean: what the reference heap holds, and what its calls do. No program here.
-/
import Derived.Test.YtgegkcjllliifabDoorRows
import Derived.WalkKit
import Derived.WalkSpells
import Derived.WalkLawsBesides
namespace Go.Proofs.YtgegkcjllliifabDoor
open Go.RowKit

theorem hide {p : Prop} (h : p) : Hid p := h
theorem unhide {p : Prop} (h : Hid p) : p := h
theorem ret_int {k : IntKind} {a b : Int} (h : a = b) : Ending.returned (.int k a) = .returned (.int k b) := by rw [h]
theorem ret_bool {a b : Bool} (h : a = b) : Ending.returned (.bool a) = .returned (.bool b) := by rw [h]

/-- An object: where it begins, its kind, its words. -/
structure Ob where
  pos : Int
  atomic : Bool
  ws : List Int

/-- The model's heap. -/
structure Mo where
  pages : Nat
  stack : Nat
  trig : Nat
  objs : List Ob
  roots : List Int
  black : List Bool
  since : Nat
  runs : Nat
  kept : Nat

/-- Does the object lie at a? -/
def Ob.has (o : Ob) (a : Int) : Bool := decide (o.pos ≤ a) && decide (a < o.pos + 8 * (o.ws.length : Int))

/-- The number of the first object of a list that lies at a, from number k on; -1: none. -/
def findFrom (a : Int) : Nat → List Ob → Int
  | _, [] => -1
  | k, o :: r => if o.has a then (k : Int) else findFrom a (k + 1) r
def Mo.find (m : Mo) (a : Int) : Int := findFrom a 0 m.objs

theorem findFrom_step (a : Int) (l : List Ob) (k : Nat) (h : k < l.length) : findFrom a k (l.drop k) = if (l[k]).has a then (k : Int) else findFrom a (k + 1) (l.drop (k + 1)) := by
  rw [List.drop_eq_getElem_cons h, findFrom]
theorem findFrom_end (a : Int) (l : List Ob) (k : Nat) (h : l.length ≤ k) : findFrom a k (l.drop k) = -1 := by
  rw [List.drop_eq_nil_of_le h, findFrom]

/-- The size of an object for which n words are asked. -/
def sizeOf' (n : Int) : Int := if n ≤ 1 then 1 else if n ≤ 2 then 2 else if n ≤ 3 then 3 else if n ≤ 4 then 4 else if n ≤ 6 then 6 else if n ≤ 8 then 8 else if n ≤ 12 then 12 else if n ≤ 16 then 16 else (n + 31) / 32 * 32

end Go.Proofs.YtgegkcjllliifabDoor
