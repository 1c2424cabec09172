/-
  NARROWER THAN 'FOR EVERY INPUT', by the rows' own cells (each row's printed sentence says how): Full: laid · Cycle: laid · Number: laid · Apart: laid · Tree: laid · Sizes: laid · All: laid.
  DERIVED. THE GIVEN ROWS OF THIS SEAT. 7 by the template 'for every input the law returns true; each argument reads behind the call as it read before'; 0 by the template 'total and deterministic' (their statements: YtgegkcjllliifabDoorTotals.lean).
  GIVEN WITH THE SEED: the statements are not yours to turn. If you find one false, say at which input.
  Laid BY PROGRAM, IN A SANDBOX (cutbox-rows.mjs): the forced cells as the released guide's own fill.sh prints them over the translation 294045351e2d40b8… (all of the seat's roots in one cut). By AI agents, Wed Nov 11 2026. No macro, syntax, notation, axiom, sorry.
-/
import Derived.Test.YtgegkcjllliifabDoorChecked
import GoSem.Claim
import GoSem.ClaimJoined
import GoSem.ClaimMapViews
import Derived.JoinedTies
import Derived.KernelRfl
namespace Go.Proofs.YtgegkcjllliifabDoor
/- THE CELL 'sum', in the pinned program and in every row, IS THE sha256 OF THE DUMP (.gsa) THAT YtgegkcjllliifabDoorProg.lean LOADS. Nothing in Lean hashes anything: it is a label: what it is worth is what the hold of that sum in a sandbox is worth. -/
noncomputable def Tryd.pinned : Pinned := { name := "ytgegkcjllliifabdoor", sum := "294045351e2d40b82e4c3e59c5c61cef83a6231c741a0defc3a443dde4254c07", checked := Tryd.checked }
namespace Rows
def none {H : Type} : Left H := { results := [], args := [] }

/- WHAT THE LISTED PACKAGE-LEVEL VARIABLES READ AS WHEN THE CALL BEGINS. Each datum BY PROGRAM (the guide's laid-datum.mjs) off the statement by which the dump's own 'gosem.cut.vars' lays the variable. In a bare row this is a premise. The card (YtgegkcjllliifabDoorCards.lean) ties it to the program's text. -/
def laid_collector_heap_smallSizes {H : Type} : DataW H := .agg [.lit (.int .i64 1), .lit (.int .i64 2), .lit (.int .i64 3), .lit (.int .i64 4), .lit (.int .i64 6), .lit (.int .i64 8), .lit (.int .i64 12), .lit (.int .i64 16)]

/-- 'collectorsays.Full': WHATEVER THE INPUT: true; the input reads as it did. -/
def fullSpec : ChangeSpec := { name := "full", fn := fun _ => fun
  | [d1, d2, d3] => { results := [.lit (.bool true)], args := [d1, d2, d3] }
  | _ => none }
def fullRow : OpenClaim := { program := "ytgegkcjllliifabdoor", sum := "294045351e2d40b82e4c3e59c5c61cef83a6231c741a0defc3a443dde4254c07", func := "collector/collectorsays.Full", spec := "full", named := ["collector/heap.smallSizes"], apart := false, laid := [("collector/heap.smallSizes", laid_collector_heap_smallSizes)] }
def FullSaid : Prop := fullRow.holds Tryd.pinned (OpenSpec.ofChange fullSpec)

/-- ITS FALSE NEIGHBOUR: 'it returns false'. Refute it at one input. -/
def fullWrong : ChangeSpec := { name := "full", fn := fun _ => fun
  | [d1, d2, d3] => { results := [.lit (.bool false)], args := [d1, d2, d3] }
  | _ => none }
def FullWrongFalsely : Prop := fullRow.holds Tryd.pinned (OpenSpec.ofChange fullWrong)

/-- 'collectorsays.Cycle': WHATEVER THE INPUT: true; the input reads as it did. -/
def cycleSpec : ChangeSpec := { name := "cycle", fn := fun _ => fun
  | [d1, d2, d3] => { results := [.lit (.bool true)], args := [d1, d2, d3] }
  | _ => none }
def cycleRow : OpenClaim := { program := "ytgegkcjllliifabdoor", sum := "294045351e2d40b82e4c3e59c5c61cef83a6231c741a0defc3a443dde4254c07", func := "collector/collectorsays.Cycle", spec := "cycle", named := ["collector/heap.smallSizes"], apart := false, laid := [("collector/heap.smallSizes", laid_collector_heap_smallSizes)] }
def CycleSaid : Prop := cycleRow.holds Tryd.pinned (OpenSpec.ofChange cycleSpec)

/-- ITS FALSE NEIGHBOUR: 'it returns false'. Refute it at one input. -/
def cycleWrong : ChangeSpec := { name := "cycle", fn := fun _ => fun
  | [d1, d2, d3] => { results := [.lit (.bool false)], args := [d1, d2, d3] }
  | _ => none }
def CycleWrongFalsely : Prop := cycleRow.holds Tryd.pinned (OpenSpec.ofChange cycleWrong)

/-- 'collectorsays.Number': WHATEVER THE INPUT: true; the input reads as it did. -/
def numberSpec : ChangeSpec := { name := "number", fn := fun _ => fun
  | [d1, d2, d3] => { results := [.lit (.bool true)], args := [d1, d2, d3] }
  | _ => none }
def numberRow : OpenClaim := { program := "ytgegkcjllliifabdoor", sum := "294045351e2d40b82e4c3e59c5c61cef83a6231c741a0defc3a443dde4254c07", func := "collector/collectorsays.Number", spec := "number", named := ["collector/heap.smallSizes"], apart := false, laid := [("collector/heap.smallSizes", laid_collector_heap_smallSizes)] }
def NumberSaid : Prop := numberRow.holds Tryd.pinned (OpenSpec.ofChange numberSpec)

/-- ITS FALSE NEIGHBOUR: 'it returns false'. Refute it at one input. -/
def numberWrong : ChangeSpec := { name := "number", fn := fun _ => fun
  | [d1, d2, d3] => { results := [.lit (.bool false)], args := [d1, d2, d3] }
  | _ => none }
def NumberWrongFalsely : Prop := numberRow.holds Tryd.pinned (OpenSpec.ofChange numberWrong)

/-- 'collectorsays.Apart': WHATEVER THE INPUT: true; the input reads as it did. -/
def apartSpec : ChangeSpec := { name := "apart", fn := fun _ => fun
  | [d1, d2, d3] => { results := [.lit (.bool true)], args := [d1, d2, d3] }
  | _ => none }
def apartRow : OpenClaim := { program := "ytgegkcjllliifabdoor", sum := "294045351e2d40b82e4c3e59c5c61cef83a6231c741a0defc3a443dde4254c07", func := "collector/collectorsays.Apart", spec := "apart", named := ["collector/heap.smallSizes"], apart := false, laid := [("collector/heap.smallSizes", laid_collector_heap_smallSizes)] }
def ApartSaid : Prop := apartRow.holds Tryd.pinned (OpenSpec.ofChange apartSpec)

/-- ITS FALSE NEIGHBOUR: 'it returns false'. Refute it at one input. -/
def apartWrong : ChangeSpec := { name := "apart", fn := fun _ => fun
  | [d1, d2, d3] => { results := [.lit (.bool false)], args := [d1, d2, d3] }
  | _ => none }
def ApartWrongFalsely : Prop := apartRow.holds Tryd.pinned (OpenSpec.ofChange apartWrong)

/-- 'collectorsays.Tree': WHATEVER THE INPUT: true; the input reads as it did. -/
def treeSpec : ChangeSpec := { name := "tree", fn := fun _ => fun
  | [d1, d2, d3] => { results := [.lit (.bool true)], args := [d1, d2, d3] }
  | _ => none }
def treeRow : OpenClaim := { program := "ytgegkcjllliifabdoor", sum := "294045351e2d40b82e4c3e59c5c61cef83a6231c741a0defc3a443dde4254c07", func := "collector/collectorsays.Tree", spec := "tree", named := ["collector/heap.smallSizes"], apart := false, laid := [("collector/heap.smallSizes", laid_collector_heap_smallSizes)] }
def TreeSaid : Prop := treeRow.holds Tryd.pinned (OpenSpec.ofChange treeSpec)

/-- ITS FALSE NEIGHBOUR: 'it returns false'. Refute it at one input. -/
def treeWrong : ChangeSpec := { name := "tree", fn := fun _ => fun
  | [d1, d2, d3] => { results := [.lit (.bool false)], args := [d1, d2, d3] }
  | _ => none }
def TreeWrongFalsely : Prop := treeRow.holds Tryd.pinned (OpenSpec.ofChange treeWrong)

/-- 'collectorsays.Sizes': WHATEVER THE INPUT: true; the input reads as it did. -/
def sizesSpec : ChangeSpec := { name := "sizes", fn := fun _ => fun
  | [d1, d2, d3] => { results := [.lit (.bool true)], args := [d1, d2, d3] }
  | _ => none }
def sizesRow : OpenClaim := { program := "ytgegkcjllliifabdoor", sum := "294045351e2d40b82e4c3e59c5c61cef83a6231c741a0defc3a443dde4254c07", func := "collector/collectorsays.Sizes", spec := "sizes", named := ["collector/heap.smallSizes"], apart := false, laid := [("collector/heap.smallSizes", laid_collector_heap_smallSizes)] }
def SizesSaid : Prop := sizesRow.holds Tryd.pinned (OpenSpec.ofChange sizesSpec)

/-- ITS FALSE NEIGHBOUR: 'it returns false'. Refute it at one input. -/
def sizesWrong : ChangeSpec := { name := "sizes", fn := fun _ => fun
  | [d1, d2, d3] => { results := [.lit (.bool false)], args := [d1, d2, d3] }
  | _ => none }
def SizesWrongFalsely : Prop := sizesRow.holds Tryd.pinned (OpenSpec.ofChange sizesWrong)

/-- 'collectorlaw.All': WHATEVER THE INPUT: true; the input reads as it did. -/
def allSpec : ChangeSpec := { name := "all", fn := fun _ => fun
  | [d] => { results := [.lit (.bool true)], args := [d] }
  | _ => none }
def allRow : OpenClaim := { program := "ytgegkcjllliifabdoor", sum := "294045351e2d40b82e4c3e59c5c61cef83a6231c741a0defc3a443dde4254c07", func := "collector/collectorlaw.All", spec := "all", named := ["collector/heap.smallSizes"], apart := false, laid := [("collector/heap.smallSizes", laid_collector_heap_smallSizes)] }
def AllSaid : Prop := allRow.holds Tryd.pinned (OpenSpec.ofChange allSpec)

/-- ITS FALSE NEIGHBOUR: 'it returns false'. Refute it at one input. -/
def allWrong : ChangeSpec := { name := "all", fn := fun _ => fun
  | [d] => { results := [.lit (.bool false)], args := [d] }
  | _ => none }
def AllWrongFalsely : Prop := allRow.holds Tryd.pinned (OpenSpec.ofChange allWrong)

/- THE SECOND FORM. 'bulk': how many values and letters a reading holds, each counted each time it is reached (what is shared counts as often as it is met; a slice's spare places count too). A statement '..UptoSaid' is the law's where the arguments, and the package variables that the reading takes, are together of bulk at most 1048576: NARROWER than '..Said'. Prove '..Said' where nothing that the law and all that it calls make is longer than what came in: it says more and counts as full. Else prove '..UptoSaid'. A law counts once. -/
mutual
def uptoBulk {H : Type} : DataW H → Nat
  | .lit (.string bytes) => bytes.length + 1
  | .lit _ => 1
  | .nil => 1
  | .ptr d => uptoBulk d + 1
  | .slice elems spare => uptoBulkAll elems + uptoBulkAll spare + 1
  | .agg parts => uptoBulkAll parts + 1
  | .iface _ d => uptoBulk d + 1
  | .map entries => uptoBulkEntries entries + 1
  | .held _ => 1
def uptoBulkAll {H : Type} : List (DataW H) → Nat
  | [] => 0
  | d :: r => uptoBulk d + uptoBulkAll r
def uptoBulkEntries {H : Type} : List (Lit × DataW H) → Nat
  | [] => 0
  | x :: r => uptoBulkEntry x + uptoBulkEntries r
def uptoBulkEntry {H : Type} : Lit × DataW H → Nat
  | (.string bytes, d) => bytes.length + uptoBulk d + 1
  | (_, d) => uptoBulk d + 1
 end
def uptoSmall : (H : Type) → List (DataW H) → Bool := fun _ ds => decide (uptoBulkAll ds ≤ 1048576)
def OpenSpec.upto (s : _root_.Go.ChangeSpec) : _root_.Go.OpenSpec := { _root_.Go.OpenSpec.ofChange s with cond := some uptoSmall }

/-- 'collectorsays.Full', WHERE WHAT IT READS IS OF BULK AT MOST 1048576: true; the input reads as it did. -/
def fullUptoRow : OpenClaim := { program := "ytgegkcjllliifabdoor", sum := "294045351e2d40b82e4c3e59c5c61cef83a6231c741a0defc3a443dde4254c07", func := "collector/collectorsays.Full", spec := "full", named := ["collector/heap.smallSizes"], apart := false, laid := [("collector/heap.smallSizes", laid_collector_heap_smallSizes)], narrowed := true }
def FullUptoSaid : Prop := fullUptoRow.holds Tryd.pinned (OpenSpec.upto fullSpec)

/-- 'collectorsays.Cycle', WHERE WHAT IT READS IS OF BULK AT MOST 1048576: true; the input reads as it did. -/
def cycleUptoRow : OpenClaim := { program := "ytgegkcjllliifabdoor", sum := "294045351e2d40b82e4c3e59c5c61cef83a6231c741a0defc3a443dde4254c07", func := "collector/collectorsays.Cycle", spec := "cycle", named := ["collector/heap.smallSizes"], apart := false, laid := [("collector/heap.smallSizes", laid_collector_heap_smallSizes)], narrowed := true }
def CycleUptoSaid : Prop := cycleUptoRow.holds Tryd.pinned (OpenSpec.upto cycleSpec)

/-- 'collectorsays.Number', WHERE WHAT IT READS IS OF BULK AT MOST 1048576: true; the input reads as it did. -/
def numberUptoRow : OpenClaim := { program := "ytgegkcjllliifabdoor", sum := "294045351e2d40b82e4c3e59c5c61cef83a6231c741a0defc3a443dde4254c07", func := "collector/collectorsays.Number", spec := "number", named := ["collector/heap.smallSizes"], apart := false, laid := [("collector/heap.smallSizes", laid_collector_heap_smallSizes)], narrowed := true }
def NumberUptoSaid : Prop := numberUptoRow.holds Tryd.pinned (OpenSpec.upto numberSpec)

/-- 'collectorsays.Apart', WHERE WHAT IT READS IS OF BULK AT MOST 1048576: true; the input reads as it did. -/
def apartUptoRow : OpenClaim := { program := "ytgegkcjllliifabdoor", sum := "294045351e2d40b82e4c3e59c5c61cef83a6231c741a0defc3a443dde4254c07", func := "collector/collectorsays.Apart", spec := "apart", named := ["collector/heap.smallSizes"], apart := false, laid := [("collector/heap.smallSizes", laid_collector_heap_smallSizes)], narrowed := true }
def ApartUptoSaid : Prop := apartUptoRow.holds Tryd.pinned (OpenSpec.upto apartSpec)

/-- 'collectorsays.Tree', WHERE WHAT IT READS IS OF BULK AT MOST 1048576: true; the input reads as it did. -/
def treeUptoRow : OpenClaim := { program := "ytgegkcjllliifabdoor", sum := "294045351e2d40b82e4c3e59c5c61cef83a6231c741a0defc3a443dde4254c07", func := "collector/collectorsays.Tree", spec := "tree", named := ["collector/heap.smallSizes"], apart := false, laid := [("collector/heap.smallSizes", laid_collector_heap_smallSizes)], narrowed := true }
def TreeUptoSaid : Prop := treeUptoRow.holds Tryd.pinned (OpenSpec.upto treeSpec)

/-- 'collectorsays.Sizes', WHERE WHAT IT READS IS OF BULK AT MOST 1048576: true; the input reads as it did. -/
def sizesUptoRow : OpenClaim := { program := "ytgegkcjllliifabdoor", sum := "294045351e2d40b82e4c3e59c5c61cef83a6231c741a0defc3a443dde4254c07", func := "collector/collectorsays.Sizes", spec := "sizes", named := ["collector/heap.smallSizes"], apart := false, laid := [("collector/heap.smallSizes", laid_collector_heap_smallSizes)], narrowed := true }
def SizesUptoSaid : Prop := sizesUptoRow.holds Tryd.pinned (OpenSpec.upto sizesSpec)

/-- 'collectorlaw.All', WHERE WHAT IT READS IS OF BULK AT MOST 1048576: true; the input reads as it did. -/
def allUptoRow : OpenClaim := { program := "ytgegkcjllliifabdoor", sum := "294045351e2d40b82e4c3e59c5c61cef83a6231c741a0defc3a443dde4254c07", func := "collector/collectorlaw.All", spec := "all", named := ["collector/heap.smallSizes"], apart := false, laid := [("collector/heap.smallSizes", laid_collector_heap_smallSizes)], narrowed := true }
def AllUptoSaid : Prop := allUptoRow.holds Tryd.pinned (OpenSpec.upto allSpec)

end Rows
end Go.Proofs.YtgegkcjllliifabDoor
