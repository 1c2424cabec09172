/-
  DERIVED. GIVEN WITH THE SEED: THE CARDS: each row of YtgegkcjllliifaaDoorRows.lean that lists a variable, with what it lists TIED to the program's text (the seventh form; the later family's looks); each row that meets fmt, with fmt's text TOLD by the authors' own Lean function (tested against real Go, not proved from fmt's source: count such statements apart). THE CARD IS WHAT COUNTS. Prove the row's statement (the work); the ties are given (YtgegkcjllliifaaDoorTie.lean); close each card by the builder's one call (the guide's Derived/Test/ToyasCard.lean, 'card_holds'). Laid BY PROGRAM, IN A SANDBOX (cutbox-door.mjs). By AI agents, Wed Nov 11 2026. No macro, syntax, notation, axiom, sorry.
-/
import Derived.Test.YtgegkcjllliifaaDoorRows
import GoSem.ClaimSeven
namespace Go.Proofs.YtgegkcjllliifaaDoor
namespace Rows

/-- THE TIED CARD OF 'collectorlaw.Allocs'. -/
def allocsCard : Claim7 := { stood := { row := allocsRow, standIns := [], harness := (true, "b38c88be9682af7a88c10de6908b9096ae91c654579d64685371428a4d9584fe"), looks := false }, kinds := [], alts := [], laidByText := true, laidKinds := [.data], laidTests := true, laidLooks := .later }
def AllocsCardSaid : Prop := Claim7.holds Tryd.pinned (.plain (OpenSpec.ofChange allocsSpec)) allocsCard

/-- THE TIED CARD OF 'collectorlaw.Asks'. -/
def asksCard : Claim7 := { stood := { row := asksRow, standIns := [], harness := (true, "b38c88be9682af7a88c10de6908b9096ae91c654579d64685371428a4d9584fe"), looks := false }, kinds := [], alts := [], laidByText := true, laidKinds := [.data], laidTests := true, laidLooks := .later }
def AsksCardSaid : Prop := Claim7.holds Tryd.pinned (.plain (OpenSpec.ofChange asksSpec)) asksCard

/-- THE TIED CARD OF 'collectorlaw.Collects'. -/
def collectsCard : Claim7 := { stood := { row := collectsRow, standIns := [], harness := (true, "b38c88be9682af7a88c10de6908b9096ae91c654579d64685371428a4d9584fe"), looks := false }, kinds := [], alts := [], laidByText := true, laidKinds := [.data], laidTests := true, laidLooks := .later }
def CollectsCardSaid : Prop := Claim7.holds Tryd.pinned (.plain (OpenSpec.ofChange collectsSpec)) collectsCard

/-- THE TIED CARD OF 'collectorlaw.Tells'. -/
def tellsCard : Claim7 := { stood := { row := tellsRow, standIns := [], harness := (true, "b38c88be9682af7a88c10de6908b9096ae91c654579d64685371428a4d9584fe"), looks := false }, kinds := [], alts := [], laidByText := true, laidKinds := [.data], laidTests := true, laidLooks := .later }
def TellsCardSaid : Prop := Claim7.holds Tryd.pinned (.plain (OpenSpec.ofChange tellsSpec)) tellsCard

/-- THE TIED CARD OF 'collectorsays.Chain'. -/
def chainCard : Claim7 := { stood := { row := chainRow, standIns := [], harness := (true, "b38c88be9682af7a88c10de6908b9096ae91c654579d64685371428a4d9584fe"), looks := false }, kinds := [], alts := [], laidByText := true, laidKinds := [.data], laidTests := true, laidLooks := .later }
def ChainCardSaid : Prop := Claim7.holds Tryd.pinned (.plain (OpenSpec.ofChange chainSpec)) chainCard

/-- THE TIED CARD OF 'collectorsays.Churn'. -/
def churnCard : Claim7 := { stood := { row := churnRow, standIns := [], harness := (true, "b38c88be9682af7a88c10de6908b9096ae91c654579d64685371428a4d9584fe"), looks := false }, kinds := [], alts := [], laidByText := true, laidKinds := [.data], laidTests := true, laidLooks := .later }
def ChurnCardSaid : Prop := Claim7.holds Tryd.pinned (.plain (OpenSpec.ofChange churnSpec)) churnCard

/-- THE TIED CARD OF 'collectorsays.Inner'. -/
def innerCard : Claim7 := { stood := { row := innerRow, standIns := [], harness := (true, "b38c88be9682af7a88c10de6908b9096ae91c654579d64685371428a4d9584fe"), looks := false }, kinds := [], alts := [], laidByText := true, laidKinds := [.data], laidTests := true, laidLooks := .later }
def InnerCardSaid : Prop := Claim7.holds Tryd.pinned (.plain (OpenSpec.ofChange innerSpec)) innerCard

/-- THE TIED CARD OF 'collectorsays.Atomic'. -/
def atomicCard : Claim7 := { stood := { row := atomicRow, standIns := [], harness := (true, "b38c88be9682af7a88c10de6908b9096ae91c654579d64685371428a4d9584fe"), looks := false }, kinds := [], alts := [], laidByText := true, laidKinds := [.data], laidTests := true, laidLooks := .later }
def AtomicCardSaid : Prop := Claim7.holds Tryd.pinned (.plain (OpenSpec.ofChange atomicSpec)) atomicCard

/-- THE TIED CARD OF 'collectorsays.Black'. -/
def blackCard : Claim7 := { stood := { row := blackRow, standIns := [], harness := (true, "b38c88be9682af7a88c10de6908b9096ae91c654579d64685371428a4d9584fe"), looks := false }, kinds := [], alts := [], laidByText := true, laidKinds := [.data], laidTests := true, laidLooks := .later }
def BlackCardSaid : Prop := Claim7.holds Tryd.pinned (.plain (OpenSpec.ofChange blackSpec)) blackCard

/-- THE TIED CARD OF 'collectorsays.Room'. -/
def roomCard : Claim7 := { stood := { row := roomRow, standIns := [], harness := (true, "b38c88be9682af7a88c10de6908b9096ae91c654579d64685371428a4d9584fe"), looks := false }, kinds := [], alts := [], laidByText := true, laidKinds := [.data], laidTests := true, laidLooks := .later }
def RoomCardSaid : Prop := Claim7.holds Tryd.pinned (.plain (OpenSpec.ofChange roomSpec)) roomCard

/-- THE TIED CARD OF 'collectorsays.Zero'. -/
def zeroCard : Claim7 := { stood := { row := zeroRow, standIns := [], harness := (true, "b38c88be9682af7a88c10de6908b9096ae91c654579d64685371428a4d9584fe"), looks := false }, kinds := [], alts := [], laidByText := true, laidKinds := [.data], laidTests := true, laidLooks := .later }
def ZeroCardSaid : Prop := Claim7.holds Tryd.pinned (.plain (OpenSpec.ofChange zeroSpec)) zeroCard

/-- THE TIED CARD OF 'collectorsays.Wrong'. -/
def wrongCard : Claim7 := { stood := { row := wrongRow, standIns := [], harness := (true, "b38c88be9682af7a88c10de6908b9096ae91c654579d64685371428a4d9584fe"), looks := false }, kinds := [], alts := [], laidByText := true, laidKinds := [.data], laidTests := true, laidLooks := .later }
def WrongCardSaid : Prop := Claim7.holds Tryd.pinned (.plain (OpenSpec.ofChange wrongSpec)) wrongCard

/-- THE SECOND FORM's CARD OF 'collectorlaw.Allocs'. -/
def allocsUptoCard : Claim7 := { stood := { row := allocsUptoRow, standIns := [], harness := (true, "b38c88be9682af7a88c10de6908b9096ae91c654579d64685371428a4d9584fe"), looks := false }, kinds := [], alts := [], laidByText := true, laidKinds := [.data], laidTests := true, laidLooks := .later }
def AllocsUptoCardSaid : Prop := Claim7.holds Tryd.pinned (.plain (OpenSpec.upto allocsSpec)) allocsUptoCard

/-- THE SECOND FORM's CARD OF 'collectorlaw.Asks'. -/
def asksUptoCard : Claim7 := { stood := { row := asksUptoRow, standIns := [], harness := (true, "b38c88be9682af7a88c10de6908b9096ae91c654579d64685371428a4d9584fe"), looks := false }, kinds := [], alts := [], laidByText := true, laidKinds := [.data], laidTests := true, laidLooks := .later }
def AsksUptoCardSaid : Prop := Claim7.holds Tryd.pinned (.plain (OpenSpec.upto asksSpec)) asksUptoCard

/-- THE SECOND FORM's CARD OF 'collectorlaw.Collects'. -/
def collectsUptoCard : Claim7 := { stood := { row := collectsUptoRow, standIns := [], harness := (true, "b38c88be9682af7a88c10de6908b9096ae91c654579d64685371428a4d9584fe"), looks := false }, kinds := [], alts := [], laidByText := true, laidKinds := [.data], laidTests := true, laidLooks := .later }
def CollectsUptoCardSaid : Prop := Claim7.holds Tryd.pinned (.plain (OpenSpec.upto collectsSpec)) collectsUptoCard

/-- THE SECOND FORM's CARD OF 'collectorlaw.Tells'. -/
def tellsUptoCard : Claim7 := { stood := { row := tellsUptoRow, standIns := [], harness := (true, "b38c88be9682af7a88c10de6908b9096ae91c654579d64685371428a4d9584fe"), looks := false }, kinds := [], alts := [], laidByText := true, laidKinds := [.data], laidTests := true, laidLooks := .later }
def TellsUptoCardSaid : Prop := Claim7.holds Tryd.pinned (.plain (OpenSpec.upto tellsSpec)) tellsUptoCard

/-- THE SECOND FORM's CARD OF 'collectorsays.Chain'. -/
def chainUptoCard : Claim7 := { stood := { row := chainUptoRow, standIns := [], harness := (true, "b38c88be9682af7a88c10de6908b9096ae91c654579d64685371428a4d9584fe"), looks := false }, kinds := [], alts := [], laidByText := true, laidKinds := [.data], laidTests := true, laidLooks := .later }
def ChainUptoCardSaid : Prop := Claim7.holds Tryd.pinned (.plain (OpenSpec.upto chainSpec)) chainUptoCard

/-- THE SECOND FORM's CARD OF 'collectorsays.Churn'. -/
def churnUptoCard : Claim7 := { stood := { row := churnUptoRow, standIns := [], harness := (true, "b38c88be9682af7a88c10de6908b9096ae91c654579d64685371428a4d9584fe"), looks := false }, kinds := [], alts := [], laidByText := true, laidKinds := [.data], laidTests := true, laidLooks := .later }
def ChurnUptoCardSaid : Prop := Claim7.holds Tryd.pinned (.plain (OpenSpec.upto churnSpec)) churnUptoCard

/-- THE SECOND FORM's CARD OF 'collectorsays.Inner'. -/
def innerUptoCard : Claim7 := { stood := { row := innerUptoRow, standIns := [], harness := (true, "b38c88be9682af7a88c10de6908b9096ae91c654579d64685371428a4d9584fe"), looks := false }, kinds := [], alts := [], laidByText := true, laidKinds := [.data], laidTests := true, laidLooks := .later }
def InnerUptoCardSaid : Prop := Claim7.holds Tryd.pinned (.plain (OpenSpec.upto innerSpec)) innerUptoCard

/-- THE SECOND FORM's CARD OF 'collectorsays.Atomic'. -/
def atomicUptoCard : Claim7 := { stood := { row := atomicUptoRow, standIns := [], harness := (true, "b38c88be9682af7a88c10de6908b9096ae91c654579d64685371428a4d9584fe"), looks := false }, kinds := [], alts := [], laidByText := true, laidKinds := [.data], laidTests := true, laidLooks := .later }
def AtomicUptoCardSaid : Prop := Claim7.holds Tryd.pinned (.plain (OpenSpec.upto atomicSpec)) atomicUptoCard

/-- THE SECOND FORM's CARD OF 'collectorsays.Black'. -/
def blackUptoCard : Claim7 := { stood := { row := blackUptoRow, standIns := [], harness := (true, "b38c88be9682af7a88c10de6908b9096ae91c654579d64685371428a4d9584fe"), looks := false }, kinds := [], alts := [], laidByText := true, laidKinds := [.data], laidTests := true, laidLooks := .later }
def BlackUptoCardSaid : Prop := Claim7.holds Tryd.pinned (.plain (OpenSpec.upto blackSpec)) blackUptoCard

/-- THE SECOND FORM's CARD OF 'collectorsays.Room'. -/
def roomUptoCard : Claim7 := { stood := { row := roomUptoRow, standIns := [], harness := (true, "b38c88be9682af7a88c10de6908b9096ae91c654579d64685371428a4d9584fe"), looks := false }, kinds := [], alts := [], laidByText := true, laidKinds := [.data], laidTests := true, laidLooks := .later }
def RoomUptoCardSaid : Prop := Claim7.holds Tryd.pinned (.plain (OpenSpec.upto roomSpec)) roomUptoCard

/-- THE SECOND FORM's CARD OF 'collectorsays.Zero'. -/
def zeroUptoCard : Claim7 := { stood := { row := zeroUptoRow, standIns := [], harness := (true, "b38c88be9682af7a88c10de6908b9096ae91c654579d64685371428a4d9584fe"), looks := false }, kinds := [], alts := [], laidByText := true, laidKinds := [.data], laidTests := true, laidLooks := .later }
def ZeroUptoCardSaid : Prop := Claim7.holds Tryd.pinned (.plain (OpenSpec.upto zeroSpec)) zeroUptoCard

/-- THE SECOND FORM's CARD OF 'collectorsays.Wrong'. -/
def wrongUptoCard : Claim7 := { stood := { row := wrongUptoRow, standIns := [], harness := (true, "b38c88be9682af7a88c10de6908b9096ae91c654579d64685371428a4d9584fe"), looks := false }, kinds := [], alts := [], laidByText := true, laidKinds := [.data], laidTests := true, laidLooks := .later }
def WrongUptoCardSaid : Prop := Claim7.holds Tryd.pinned (.plain (OpenSpec.upto wrongSpec)) wrongUptoCard
end Rows
end Go.Proofs.YtgegkcjllliifaaDoor
