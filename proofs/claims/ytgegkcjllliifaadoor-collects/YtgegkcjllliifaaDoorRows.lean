/-
  NARROWER THAN 'FOR EVERY INPUT', by the rows' own cells (each row's printed sentence says how): Allocs: laid · Asks: laid · Collects: laid · Tells: laid · Chain: laid · Churn: laid · Inner: laid · Atomic: laid · Black: laid · Room: laid · Zero: laid · Wrong: laid.
  DERIVED. THE GIVEN ROWS OF THIS SEAT. 12 by the template 'for every input the law returns true; each argument reads behind the call as it read before'; 0 by the template 'total and deterministic' (their statements: YtgegkcjllliifaaDoorTotals.lean).
  GIVEN WITH THE SEED: the statements are not yours to turn. If you find one false, say at which input.
  Laid BY PROGRAM, IN A SANDBOX (cutbox-rows.mjs): the forced cells as the released guide's own fill.sh prints them over the translation e8d6a0070fbb480e… (all of the seat's roots in one cut). By AI agents, Wed Nov 11 2026. No macro, syntax, notation, axiom, sorry.
-/
import Derived.Test.YtgegkcjllliifaaDoorChecked
import GoSem.Claim
import GoSem.ClaimJoined
import GoSem.ClaimMapViews
import Derived.JoinedTies
import Derived.KernelRfl
namespace Go.Proofs.YtgegkcjllliifaaDoor
/- THE CELL 'sum', in the pinned program and in every row, IS THE sha256 OF THE DUMP (.gsa) THAT YtgegkcjllliifaaDoorProg.lean LOADS. Nothing in Lean hashes anything: it is a label: what it is worth is what the hold of that sum in a sandbox is worth. -/
noncomputable def Tryd.pinned : Pinned := { name := "ytgegkcjllliifaadoor", sum := "e8d6a0070fbb480ebabd88298e3454c214e2d7d877dd85cd62b184083b139e80", checked := Tryd.checked }
namespace Rows
def none {H : Type} : Left H := { results := [], args := [] }

/- WHAT THE LISTED PACKAGE-LEVEL VARIABLES READ AS WHEN THE CALL BEGINS. Each datum BY PROGRAM (the guide's laid-datum.mjs) off the statement by which the dump's own 'gosem.cut.vars' lays the variable. In a bare row this is a premise. The card (YtgegkcjllliifaaDoorCards.lean) ties it to the program's text. -/
def laid_collector_heap_smallSizes {H : Type} : DataW H := .agg [.lit (.int .i64 1), .lit (.int .i64 2), .lit (.int .i64 3), .lit (.int .i64 4), .lit (.int .i64 6), .lit (.int .i64 8), .lit (.int .i64 12), .lit (.int .i64 16)]

/-- 'collectorlaw.Allocs': WHATEVER THE INPUT: true; the input reads as it did. -/
def allocsSpec : ChangeSpec := { name := "allocs", fn := fun _ => fun
  | [d] => { results := [.lit (.bool true)], args := [d] }
  | _ => none }
def allocsRow : OpenClaim := { program := "ytgegkcjllliifaadoor", sum := "e8d6a0070fbb480ebabd88298e3454c214e2d7d877dd85cd62b184083b139e80", func := "collector/collectorlaw.Allocs", spec := "allocs", named := ["collector/heap.smallSizes"], apart := false, laid := [("collector/heap.smallSizes", laid_collector_heap_smallSizes)] }
def AllocsSaid : Prop := allocsRow.holds Tryd.pinned (OpenSpec.ofChange allocsSpec)

/-- ITS FALSE NEIGHBOUR: 'it returns false'. Refute it at one input. -/
def allocsWrong : ChangeSpec := { name := "allocs", fn := fun _ => fun
  | [d] => { results := [.lit (.bool false)], args := [d] }
  | _ => none }
def AllocsWrongFalsely : Prop := allocsRow.holds Tryd.pinned (OpenSpec.ofChange allocsWrong)

/-- 'collectorlaw.Asks': WHATEVER THE INPUT: true; the input reads as it did. -/
def asksSpec : ChangeSpec := { name := "asks", fn := fun _ => fun
  | [d] => { results := [.lit (.bool true)], args := [d] }
  | _ => none }
def asksRow : OpenClaim := { program := "ytgegkcjllliifaadoor", sum := "e8d6a0070fbb480ebabd88298e3454c214e2d7d877dd85cd62b184083b139e80", func := "collector/collectorlaw.Asks", spec := "asks", named := ["collector/heap.smallSizes"], apart := false, laid := [("collector/heap.smallSizes", laid_collector_heap_smallSizes)] }
def AsksSaid : Prop := asksRow.holds Tryd.pinned (OpenSpec.ofChange asksSpec)

/-- ITS FALSE NEIGHBOUR: 'it returns false'. Refute it at one input. -/
def asksWrong : ChangeSpec := { name := "asks", fn := fun _ => fun
  | [d] => { results := [.lit (.bool false)], args := [d] }
  | _ => none }
def AsksWrongFalsely : Prop := asksRow.holds Tryd.pinned (OpenSpec.ofChange asksWrong)

/-- 'collectorlaw.Collects': WHATEVER THE INPUT: true; the input reads as it did. -/
def collectsSpec : ChangeSpec := { name := "collects", fn := fun _ => fun
  | [d] => { results := [.lit (.bool true)], args := [d] }
  | _ => none }
def collectsRow : OpenClaim := { program := "ytgegkcjllliifaadoor", sum := "e8d6a0070fbb480ebabd88298e3454c214e2d7d877dd85cd62b184083b139e80", func := "collector/collectorlaw.Collects", spec := "collects", named := ["collector/heap.smallSizes"], apart := false, laid := [("collector/heap.smallSizes", laid_collector_heap_smallSizes)] }
def CollectsSaid : Prop := collectsRow.holds Tryd.pinned (OpenSpec.ofChange collectsSpec)

/-- ITS FALSE NEIGHBOUR: 'it returns false'. Refute it at one input. -/
def collectsWrong : ChangeSpec := { name := "collects", fn := fun _ => fun
  | [d] => { results := [.lit (.bool false)], args := [d] }
  | _ => none }
def CollectsWrongFalsely : Prop := collectsRow.holds Tryd.pinned (OpenSpec.ofChange collectsWrong)

/-- 'collectorlaw.Tells': WHATEVER THE INPUT: true; the input reads as it did. -/
def tellsSpec : ChangeSpec := { name := "tells", fn := fun _ => fun
  | [d] => { results := [.lit (.bool true)], args := [d] }
  | _ => none }
def tellsRow : OpenClaim := { program := "ytgegkcjllliifaadoor", sum := "e8d6a0070fbb480ebabd88298e3454c214e2d7d877dd85cd62b184083b139e80", func := "collector/collectorlaw.Tells", spec := "tells", named := ["collector/heap.smallSizes"], apart := false, laid := [("collector/heap.smallSizes", laid_collector_heap_smallSizes)] }
def TellsSaid : Prop := tellsRow.holds Tryd.pinned (OpenSpec.ofChange tellsSpec)

/-- ITS FALSE NEIGHBOUR: 'it returns false'. Refute it at one input. -/
def tellsWrong : ChangeSpec := { name := "tells", fn := fun _ => fun
  | [d] => { results := [.lit (.bool false)], args := [d] }
  | _ => none }
def TellsWrongFalsely : Prop := tellsRow.holds Tryd.pinned (OpenSpec.ofChange tellsWrong)

/-- 'collectorsays.Chain': WHATEVER THE INPUT: true; the input reads as it did. -/
def chainSpec : ChangeSpec := { name := "chain", fn := fun _ => fun
  | [d1, d2, d3] => { results := [.lit (.bool true)], args := [d1, d2, d3] }
  | _ => none }
def chainRow : OpenClaim := { program := "ytgegkcjllliifaadoor", sum := "e8d6a0070fbb480ebabd88298e3454c214e2d7d877dd85cd62b184083b139e80", func := "collector/collectorsays.Chain", spec := "chain", named := ["collector/heap.smallSizes"], apart := false, laid := [("collector/heap.smallSizes", laid_collector_heap_smallSizes)] }
def ChainSaid : Prop := chainRow.holds Tryd.pinned (OpenSpec.ofChange chainSpec)

/-- ITS FALSE NEIGHBOUR: 'it returns false'. Refute it at one input. -/
def chainWrong : ChangeSpec := { name := "chain", fn := fun _ => fun
  | [d1, d2, d3] => { results := [.lit (.bool false)], args := [d1, d2, d3] }
  | _ => none }
def ChainWrongFalsely : Prop := chainRow.holds Tryd.pinned (OpenSpec.ofChange chainWrong)

/-- 'collectorsays.Churn': WHATEVER THE INPUT: true; the input reads as it did. -/
def churnSpec : ChangeSpec := { name := "churn", fn := fun _ => fun
  | [d1, d2, d3] => { results := [.lit (.bool true)], args := [d1, d2, d3] }
  | _ => none }
def churnRow : OpenClaim := { program := "ytgegkcjllliifaadoor", sum := "e8d6a0070fbb480ebabd88298e3454c214e2d7d877dd85cd62b184083b139e80", func := "collector/collectorsays.Churn", spec := "churn", named := ["collector/heap.smallSizes"], apart := false, laid := [("collector/heap.smallSizes", laid_collector_heap_smallSizes)] }
def ChurnSaid : Prop := churnRow.holds Tryd.pinned (OpenSpec.ofChange churnSpec)

/-- ITS FALSE NEIGHBOUR: 'it returns false'. Refute it at one input. -/
def churnWrong : ChangeSpec := { name := "churn", fn := fun _ => fun
  | [d1, d2, d3] => { results := [.lit (.bool false)], args := [d1, d2, d3] }
  | _ => none }
def ChurnWrongFalsely : Prop := churnRow.holds Tryd.pinned (OpenSpec.ofChange churnWrong)

/-- 'collectorsays.Inner': WHATEVER THE INPUT: true; the input reads as it did. -/
def innerSpec : ChangeSpec := { name := "inner", fn := fun _ => fun
  | [d1, d2, d3] => { results := [.lit (.bool true)], args := [d1, d2, d3] }
  | _ => none }
def innerRow : OpenClaim := { program := "ytgegkcjllliifaadoor", sum := "e8d6a0070fbb480ebabd88298e3454c214e2d7d877dd85cd62b184083b139e80", func := "collector/collectorsays.Inner", spec := "inner", named := ["collector/heap.smallSizes"], apart := false, laid := [("collector/heap.smallSizes", laid_collector_heap_smallSizes)] }
def InnerSaid : Prop := innerRow.holds Tryd.pinned (OpenSpec.ofChange innerSpec)

/-- ITS FALSE NEIGHBOUR: 'it returns false'. Refute it at one input. -/
def innerWrong : ChangeSpec := { name := "inner", fn := fun _ => fun
  | [d1, d2, d3] => { results := [.lit (.bool false)], args := [d1, d2, d3] }
  | _ => none }
def InnerWrongFalsely : Prop := innerRow.holds Tryd.pinned (OpenSpec.ofChange innerWrong)

/-- 'collectorsays.Atomic': WHATEVER THE INPUT: true; the input reads as it did. -/
def atomicSpec : ChangeSpec := { name := "atomic", fn := fun _ => fun
  | [d1, d2, d3] => { results := [.lit (.bool true)], args := [d1, d2, d3] }
  | _ => none }
def atomicRow : OpenClaim := { program := "ytgegkcjllliifaadoor", sum := "e8d6a0070fbb480ebabd88298e3454c214e2d7d877dd85cd62b184083b139e80", func := "collector/collectorsays.Atomic", spec := "atomic", named := ["collector/heap.smallSizes"], apart := false, laid := [("collector/heap.smallSizes", laid_collector_heap_smallSizes)] }
def AtomicSaid : Prop := atomicRow.holds Tryd.pinned (OpenSpec.ofChange atomicSpec)

/-- ITS FALSE NEIGHBOUR: 'it returns false'. Refute it at one input. -/
def atomicWrong : ChangeSpec := { name := "atomic", fn := fun _ => fun
  | [d1, d2, d3] => { results := [.lit (.bool false)], args := [d1, d2, d3] }
  | _ => none }
def AtomicWrongFalsely : Prop := atomicRow.holds Tryd.pinned (OpenSpec.ofChange atomicWrong)

/-- 'collectorsays.Black': WHATEVER THE INPUT: true; the input reads as it did. -/
def blackSpec : ChangeSpec := { name := "black", fn := fun _ => fun
  | [d1, d2, d3] => { results := [.lit (.bool true)], args := [d1, d2, d3] }
  | _ => none }
def blackRow : OpenClaim := { program := "ytgegkcjllliifaadoor", sum := "e8d6a0070fbb480ebabd88298e3454c214e2d7d877dd85cd62b184083b139e80", func := "collector/collectorsays.Black", spec := "black", named := ["collector/heap.smallSizes"], apart := false, laid := [("collector/heap.smallSizes", laid_collector_heap_smallSizes)] }
def BlackSaid : Prop := blackRow.holds Tryd.pinned (OpenSpec.ofChange blackSpec)

/-- ITS FALSE NEIGHBOUR: 'it returns false'. Refute it at one input. -/
def blackWrong : ChangeSpec := { name := "black", fn := fun _ => fun
  | [d1, d2, d3] => { results := [.lit (.bool false)], args := [d1, d2, d3] }
  | _ => none }
def BlackWrongFalsely : Prop := blackRow.holds Tryd.pinned (OpenSpec.ofChange blackWrong)

/-- 'collectorsays.Room': WHATEVER THE INPUT: true; the input reads as it did. -/
def roomSpec : ChangeSpec := { name := "room", fn := fun _ => fun
  | [d1, d2, d3] => { results := [.lit (.bool true)], args := [d1, d2, d3] }
  | _ => none }
def roomRow : OpenClaim := { program := "ytgegkcjllliifaadoor", sum := "e8d6a0070fbb480ebabd88298e3454c214e2d7d877dd85cd62b184083b139e80", func := "collector/collectorsays.Room", spec := "room", named := ["collector/heap.smallSizes"], apart := false, laid := [("collector/heap.smallSizes", laid_collector_heap_smallSizes)] }
def RoomSaid : Prop := roomRow.holds Tryd.pinned (OpenSpec.ofChange roomSpec)

/-- ITS FALSE NEIGHBOUR: 'it returns false'. Refute it at one input. -/
def roomWrong : ChangeSpec := { name := "room", fn := fun _ => fun
  | [d1, d2, d3] => { results := [.lit (.bool false)], args := [d1, d2, d3] }
  | _ => none }
def RoomWrongFalsely : Prop := roomRow.holds Tryd.pinned (OpenSpec.ofChange roomWrong)

/-- 'collectorsays.Zero': WHATEVER THE INPUT: true; the input reads as it did. -/
def zeroSpec : ChangeSpec := { name := "zero", fn := fun _ => fun
  | [d1, d2, d3] => { results := [.lit (.bool true)], args := [d1, d2, d3] }
  | _ => none }
def zeroRow : OpenClaim := { program := "ytgegkcjllliifaadoor", sum := "e8d6a0070fbb480ebabd88298e3454c214e2d7d877dd85cd62b184083b139e80", func := "collector/collectorsays.Zero", spec := "zero", named := ["collector/heap.smallSizes"], apart := false, laid := [("collector/heap.smallSizes", laid_collector_heap_smallSizes)] }
def ZeroSaid : Prop := zeroRow.holds Tryd.pinned (OpenSpec.ofChange zeroSpec)

/-- ITS FALSE NEIGHBOUR: 'it returns false'. Refute it at one input. -/
def zeroWrong : ChangeSpec := { name := "zero", fn := fun _ => fun
  | [d1, d2, d3] => { results := [.lit (.bool false)], args := [d1, d2, d3] }
  | _ => none }
def ZeroWrongFalsely : Prop := zeroRow.holds Tryd.pinned (OpenSpec.ofChange zeroWrong)

/-- 'collectorsays.Wrong': WHATEVER THE INPUT: true; the input reads as it did. -/
def wrongSpec : ChangeSpec := { name := "wrong", fn := fun _ => fun
  | [d1, d2, d3] => { results := [.lit (.bool true)], args := [d1, d2, d3] }
  | _ => none }
def wrongRow : OpenClaim := { program := "ytgegkcjllliifaadoor", sum := "e8d6a0070fbb480ebabd88298e3454c214e2d7d877dd85cd62b184083b139e80", func := "collector/collectorsays.Wrong", spec := "wrong", named := ["collector/heap.smallSizes"], apart := false, laid := [("collector/heap.smallSizes", laid_collector_heap_smallSizes)] }
def WrongSaid : Prop := wrongRow.holds Tryd.pinned (OpenSpec.ofChange wrongSpec)

/-- ITS FALSE NEIGHBOUR: 'it returns false'. Refute it at one input. -/
def wrongWrong : ChangeSpec := { name := "wrong", fn := fun _ => fun
  | [d1, d2, d3] => { results := [.lit (.bool false)], args := [d1, d2, d3] }
  | _ => none }
def WrongWrongFalsely : Prop := wrongRow.holds Tryd.pinned (OpenSpec.ofChange wrongWrong)

/- THE SECOND FORM. 'bulk': how many values and letters a reading holds, each counted each time it is reached (what is shared counts as often as it is met; a slice's spare places count too). A statement '..UptoSaid' is the law's where the arguments, and the package variables that the reading takes, are together of bulk at most 1048576: NARROWER than '..Said'. Prove '..Said' where nothing that the law and all that it calls make is longer than what came in: it says more and counts as full. Else prove '..UptoSaid'. A law counts once. -/
mutual
def uptoBulk {H : Type} : DataW H → Nat
  | .lit (.string bytes) => bytes.length + 1
  | .lit _ => 1
  | .nil => 1
  | .ptr d => uptoBulk d + 1
  | .slice elems spare => uptoBulkAll elems + uptoBulkAll spare + 1
  | .agg parts => uptoBulkAll parts + 1
  | .iface _ d => uptoBulk d + 1
  | .map entries => uptoBulkEntries entries + 1
  | .held _ => 1
def uptoBulkAll {H : Type} : List (DataW H) → Nat
  | [] => 0
  | d :: r => uptoBulk d + uptoBulkAll r
def uptoBulkEntries {H : Type} : List (Lit × DataW H) → Nat
  | [] => 0
  | x :: r => uptoBulkEntry x + uptoBulkEntries r
def uptoBulkEntry {H : Type} : Lit × DataW H → Nat
  | (.string bytes, d) => bytes.length + uptoBulk d + 1
  | (_, d) => uptoBulk d + 1
 end
def uptoSmall : (H : Type) → List (DataW H) → Bool := fun _ ds => decide (uptoBulkAll ds ≤ 1048576)
def OpenSpec.upto (s : _root_.Go.ChangeSpec) : _root_.Go.OpenSpec := { _root_.Go.OpenSpec.ofChange s with cond := some uptoSmall }

/-- 'collectorlaw.Allocs', WHERE WHAT IT READS IS OF BULK AT MOST 1048576: true; the input reads as it did. -/
def allocsUptoRow : OpenClaim := { program := "ytgegkcjllliifaadoor", sum := "e8d6a0070fbb480ebabd88298e3454c214e2d7d877dd85cd62b184083b139e80", func := "collector/collectorlaw.Allocs", spec := "allocs", named := ["collector/heap.smallSizes"], apart := false, laid := [("collector/heap.smallSizes", laid_collector_heap_smallSizes)], narrowed := true }
def AllocsUptoSaid : Prop := allocsUptoRow.holds Tryd.pinned (OpenSpec.upto allocsSpec)

/-- 'collectorlaw.Asks', WHERE WHAT IT READS IS OF BULK AT MOST 1048576: true; the input reads as it did. -/
def asksUptoRow : OpenClaim := { program := "ytgegkcjllliifaadoor", sum := "e8d6a0070fbb480ebabd88298e3454c214e2d7d877dd85cd62b184083b139e80", func := "collector/collectorlaw.Asks", spec := "asks", named := ["collector/heap.smallSizes"], apart := false, laid := [("collector/heap.smallSizes", laid_collector_heap_smallSizes)], narrowed := true }
def AsksUptoSaid : Prop := asksUptoRow.holds Tryd.pinned (OpenSpec.upto asksSpec)

/-- 'collectorlaw.Collects', WHERE WHAT IT READS IS OF BULK AT MOST 1048576: true; the input reads as it did. -/
def collectsUptoRow : OpenClaim := { program := "ytgegkcjllliifaadoor", sum := "e8d6a0070fbb480ebabd88298e3454c214e2d7d877dd85cd62b184083b139e80", func := "collector/collectorlaw.Collects", spec := "collects", named := ["collector/heap.smallSizes"], apart := false, laid := [("collector/heap.smallSizes", laid_collector_heap_smallSizes)], narrowed := true }
def CollectsUptoSaid : Prop := collectsUptoRow.holds Tryd.pinned (OpenSpec.upto collectsSpec)

/-- 'collectorlaw.Tells', WHERE WHAT IT READS IS OF BULK AT MOST 1048576: true; the input reads as it did. -/
def tellsUptoRow : OpenClaim := { program := "ytgegkcjllliifaadoor", sum := "e8d6a0070fbb480ebabd88298e3454c214e2d7d877dd85cd62b184083b139e80", func := "collector/collectorlaw.Tells", spec := "tells", named := ["collector/heap.smallSizes"], apart := false, laid := [("collector/heap.smallSizes", laid_collector_heap_smallSizes)], narrowed := true }
def TellsUptoSaid : Prop := tellsUptoRow.holds Tryd.pinned (OpenSpec.upto tellsSpec)

/-- 'collectorsays.Chain', WHERE WHAT IT READS IS OF BULK AT MOST 1048576: true; the input reads as it did. -/
def chainUptoRow : OpenClaim := { program := "ytgegkcjllliifaadoor", sum := "e8d6a0070fbb480ebabd88298e3454c214e2d7d877dd85cd62b184083b139e80", func := "collector/collectorsays.Chain", spec := "chain", named := ["collector/heap.smallSizes"], apart := false, laid := [("collector/heap.smallSizes", laid_collector_heap_smallSizes)], narrowed := true }
def ChainUptoSaid : Prop := chainUptoRow.holds Tryd.pinned (OpenSpec.upto chainSpec)

/-- 'collectorsays.Churn', WHERE WHAT IT READS IS OF BULK AT MOST 1048576: true; the input reads as it did. -/
def churnUptoRow : OpenClaim := { program := "ytgegkcjllliifaadoor", sum := "e8d6a0070fbb480ebabd88298e3454c214e2d7d877dd85cd62b184083b139e80", func := "collector/collectorsays.Churn", spec := "churn", named := ["collector/heap.smallSizes"], apart := false, laid := [("collector/heap.smallSizes", laid_collector_heap_smallSizes)], narrowed := true }
def ChurnUptoSaid : Prop := churnUptoRow.holds Tryd.pinned (OpenSpec.upto churnSpec)

/-- 'collectorsays.Inner', WHERE WHAT IT READS IS OF BULK AT MOST 1048576: true; the input reads as it did. -/
def innerUptoRow : OpenClaim := { program := "ytgegkcjllliifaadoor", sum := "e8d6a0070fbb480ebabd88298e3454c214e2d7d877dd85cd62b184083b139e80", func := "collector/collectorsays.Inner", spec := "inner", named := ["collector/heap.smallSizes"], apart := false, laid := [("collector/heap.smallSizes", laid_collector_heap_smallSizes)], narrowed := true }
def InnerUptoSaid : Prop := innerUptoRow.holds Tryd.pinned (OpenSpec.upto innerSpec)

/-- 'collectorsays.Atomic', WHERE WHAT IT READS IS OF BULK AT MOST 1048576: true; the input reads as it did. -/
def atomicUptoRow : OpenClaim := { program := "ytgegkcjllliifaadoor", sum := "e8d6a0070fbb480ebabd88298e3454c214e2d7d877dd85cd62b184083b139e80", func := "collector/collectorsays.Atomic", spec := "atomic", named := ["collector/heap.smallSizes"], apart := false, laid := [("collector/heap.smallSizes", laid_collector_heap_smallSizes)], narrowed := true }
def AtomicUptoSaid : Prop := atomicUptoRow.holds Tryd.pinned (OpenSpec.upto atomicSpec)

/-- 'collectorsays.Black', WHERE WHAT IT READS IS OF BULK AT MOST 1048576: true; the input reads as it did. -/
def blackUptoRow : OpenClaim := { program := "ytgegkcjllliifaadoor", sum := "e8d6a0070fbb480ebabd88298e3454c214e2d7d877dd85cd62b184083b139e80", func := "collector/collectorsays.Black", spec := "black", named := ["collector/heap.smallSizes"], apart := false, laid := [("collector/heap.smallSizes", laid_collector_heap_smallSizes)], narrowed := true }
def BlackUptoSaid : Prop := blackUptoRow.holds Tryd.pinned (OpenSpec.upto blackSpec)

/-- 'collectorsays.Room', WHERE WHAT IT READS IS OF BULK AT MOST 1048576: true; the input reads as it did. -/
def roomUptoRow : OpenClaim := { program := "ytgegkcjllliifaadoor", sum := "e8d6a0070fbb480ebabd88298e3454c214e2d7d877dd85cd62b184083b139e80", func := "collector/collectorsays.Room", spec := "room", named := ["collector/heap.smallSizes"], apart := false, laid := [("collector/heap.smallSizes", laid_collector_heap_smallSizes)], narrowed := true }
def RoomUptoSaid : Prop := roomUptoRow.holds Tryd.pinned (OpenSpec.upto roomSpec)

/-- 'collectorsays.Zero', WHERE WHAT IT READS IS OF BULK AT MOST 1048576: true; the input reads as it did. -/
def zeroUptoRow : OpenClaim := { program := "ytgegkcjllliifaadoor", sum := "e8d6a0070fbb480ebabd88298e3454c214e2d7d877dd85cd62b184083b139e80", func := "collector/collectorsays.Zero", spec := "zero", named := ["collector/heap.smallSizes"], apart := false, laid := [("collector/heap.smallSizes", laid_collector_heap_smallSizes)], narrowed := true }
def ZeroUptoSaid : Prop := zeroUptoRow.holds Tryd.pinned (OpenSpec.upto zeroSpec)

/-- 'collectorsays.Wrong', WHERE WHAT IT READS IS OF BULK AT MOST 1048576: true; the input reads as it did. -/
def wrongUptoRow : OpenClaim := { program := "ytgegkcjllliifaadoor", sum := "e8d6a0070fbb480ebabd88298e3454c214e2d7d877dd85cd62b184083b139e80", func := "collector/collectorsays.Wrong", spec := "wrong", named := ["collector/heap.smallSizes"], apart := false, laid := [("collector/heap.smallSizes", laid_collector_heap_smallSizes)], narrowed := true }
def WrongUptoSaid : Prop := wrongUptoRow.holds Tryd.pinned (OpenSpec.upto wrongSpec)

end Rows
end Go.Proofs.YtgegkcjllliifaaDoor
