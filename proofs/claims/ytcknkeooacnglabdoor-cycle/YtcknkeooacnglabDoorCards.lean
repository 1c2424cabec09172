/-
  DERIVED. GIVEN WITH THE SEED: THE CARDS: each row of YtcknkeooacnglabDoorRows.lean that lists a variable, with what it lists TIED to the program's text (the seventh form; the later family's looks); each row that meets fmt, with fmt's text TOLD by the authors' own Lean function (tested against real Go, not proved from fmt's source: count such statements apart). THE CARD IS WHAT COUNTS. Prove the row's statement (the work); the ties are given (YtcknkeooacnglabDoorTie.lean); close each card by the builder's one call (the guide's Derived/Test/ToyasCard.lean, 'card_holds'). Laid BY PROGRAM, IN A SANDBOX (cutbox-door.mjs). By AI agents, Wed Nov 11 2026. No macro, syntax, notation, axiom, sorry.
-/
import Derived.Test.YtcknkeooacnglabDoorRows
import GoSem.ClaimSeven
namespace Go.Proofs.YtcknkeooacnglabDoor
namespace Rows

/-- THE TIED CARD OF 'collectorsays.Full'. -/
def fullCard : Claim7 := { stood := { row := fullRow, standIns := [], harness := (true, "bfd0c77c2fd3421f0d5f57866cfa0a82d9de5650d7ed6dc45559dbdfaa290004"), looks := false }, kinds := [], alts := [], laidByText := true, laidKinds := [.data], laidTests := true, laidLooks := .later }
def FullCardSaid : Prop := Claim7.holds Tryd.pinned (.plain (OpenSpec.ofChange fullSpec)) fullCard

/-- THE TIED CARD OF 'collectorsays.Cycle'. -/
def cycleCard : Claim7 := { stood := { row := cycleRow, standIns := [], harness := (true, "bfd0c77c2fd3421f0d5f57866cfa0a82d9de5650d7ed6dc45559dbdfaa290004"), looks := false }, kinds := [], alts := [], laidByText := true, laidKinds := [.data], laidTests := true, laidLooks := .later }
def CycleCardSaid : Prop := Claim7.holds Tryd.pinned (.plain (OpenSpec.ofChange cycleSpec)) cycleCard

/-- THE TIED CARD OF 'collectorsays.Number'. -/
def numberCard : Claim7 := { stood := { row := numberRow, standIns := [], harness := (true, "bfd0c77c2fd3421f0d5f57866cfa0a82d9de5650d7ed6dc45559dbdfaa290004"), looks := false }, kinds := [], alts := [], laidByText := true, laidKinds := [.data], laidTests := true, laidLooks := .later }
def NumberCardSaid : Prop := Claim7.holds Tryd.pinned (.plain (OpenSpec.ofChange numberSpec)) numberCard

/-- THE TIED CARD OF 'collectorsays.Tree'. -/
def treeCard : Claim7 := { stood := { row := treeRow, standIns := [], harness := (true, "bfd0c77c2fd3421f0d5f57866cfa0a82d9de5650d7ed6dc45559dbdfaa290004"), looks := false }, kinds := [], alts := [], laidByText := true, laidKinds := [.data], laidTests := true, laidLooks := .later }
def TreeCardSaid : Prop := Claim7.holds Tryd.pinned (.plain (OpenSpec.ofChange treeSpec)) treeCard

/-- THE TIED CARD OF 'collectorsays.Sizes'. -/
def sizesCard : Claim7 := { stood := { row := sizesRow, standIns := [], harness := (true, "bfd0c77c2fd3421f0d5f57866cfa0a82d9de5650d7ed6dc45559dbdfaa290004"), looks := false }, kinds := [], alts := [], laidByText := true, laidKinds := [.data], laidTests := true, laidLooks := .later }
def SizesCardSaid : Prop := Claim7.holds Tryd.pinned (.plain (OpenSpec.ofChange sizesSpec)) sizesCard

/-- THE SECOND FORM's CARD OF 'collectorsays.Full'. -/
def fullUptoCard : Claim7 := { stood := { row := fullUptoRow, standIns := [], harness := (true, "bfd0c77c2fd3421f0d5f57866cfa0a82d9de5650d7ed6dc45559dbdfaa290004"), looks := false }, kinds := [], alts := [], laidByText := true, laidKinds := [.data], laidTests := true, laidLooks := .later }
def FullUptoCardSaid : Prop := Claim7.holds Tryd.pinned (.plain (OpenSpec.upto fullSpec)) fullUptoCard

/-- THE SECOND FORM's CARD OF 'collectorsays.Cycle'. -/
def cycleUptoCard : Claim7 := { stood := { row := cycleUptoRow, standIns := [], harness := (true, "bfd0c77c2fd3421f0d5f57866cfa0a82d9de5650d7ed6dc45559dbdfaa290004"), looks := false }, kinds := [], alts := [], laidByText := true, laidKinds := [.data], laidTests := true, laidLooks := .later }
def CycleUptoCardSaid : Prop := Claim7.holds Tryd.pinned (.plain (OpenSpec.upto cycleSpec)) cycleUptoCard

/-- THE SECOND FORM's CARD OF 'collectorsays.Number'. -/
def numberUptoCard : Claim7 := { stood := { row := numberUptoRow, standIns := [], harness := (true, "bfd0c77c2fd3421f0d5f57866cfa0a82d9de5650d7ed6dc45559dbdfaa290004"), looks := false }, kinds := [], alts := [], laidByText := true, laidKinds := [.data], laidTests := true, laidLooks := .later }
def NumberUptoCardSaid : Prop := Claim7.holds Tryd.pinned (.plain (OpenSpec.upto numberSpec)) numberUptoCard

/-- THE SECOND FORM's CARD OF 'collectorsays.Tree'. -/
def treeUptoCard : Claim7 := { stood := { row := treeUptoRow, standIns := [], harness := (true, "bfd0c77c2fd3421f0d5f57866cfa0a82d9de5650d7ed6dc45559dbdfaa290004"), looks := false }, kinds := [], alts := [], laidByText := true, laidKinds := [.data], laidTests := true, laidLooks := .later }
def TreeUptoCardSaid : Prop := Claim7.holds Tryd.pinned (.plain (OpenSpec.upto treeSpec)) treeUptoCard

/-- THE SECOND FORM's CARD OF 'collectorsays.Sizes'. -/
def sizesUptoCard : Claim7 := { stood := { row := sizesUptoRow, standIns := [], harness := (true, "bfd0c77c2fd3421f0d5f57866cfa0a82d9de5650d7ed6dc45559dbdfaa290004"), looks := false }, kinds := [], alts := [], laidByText := true, laidKinds := [.data], laidTests := true, laidLooks := .later }
def SizesUptoCardSaid : Prop := Claim7.holds Tryd.pinned (.plain (OpenSpec.upto sizesSpec)) sizesUptoCard
end Rows
end Go.Proofs.YtcknkeooacnglabDoor
