/-
  DERIVED. GIVEN WITH THE SEED: THE CARDS: each row of YtgegkcjllliifabDoorRows.lean that lists a variable, with what it lists TIED to the program's text (the seventh form; the later family's looks); each row that meets fmt, with fmt's text TOLD by the authors' own Lean function (tested against real Go, not proved from fmt's source: count such statements apart). THE CARD IS WHAT COUNTS. Prove the row's statement (the work); the ties are given (YtgegkcjllliifabDoorTie.lean); close each card by the builder's one call (the guide's Derived/Test/ToyasCard.lean, 'card_holds'). Laid BY PROGRAM, IN A SANDBOX (cutbox-door.mjs). By AI agents, Wed Nov 11 2026. No macro, syntax, notation, axiom, sorry.
-/
import Derived.Test.YtgegkcjllliifabDoorRows
import GoSem.ClaimSeven
namespace Go.Proofs.YtgegkcjllliifabDoor
namespace Rows

/-- THE TIED CARD OF 'collectorsays.Full'. -/
def fullCard : Claim7 := { stood := { row := fullRow, standIns := [], harness := (true, "367d84aefbd677afcf8345e11167ecddf8800c0538551b4cda6ffb63d754a842"), looks := false }, kinds := [], alts := [], laidByText := true, laidKinds := [.data], laidTests := true, laidLooks := .later }
def FullCardSaid : Prop := Claim7.holds Tryd.pinned (.plain (OpenSpec.ofChange fullSpec)) fullCard

/-- THE TIED CARD OF 'collectorsays.Cycle'. -/
def cycleCard : Claim7 := { stood := { row := cycleRow, standIns := [], harness := (true, "367d84aefbd677afcf8345e11167ecddf8800c0538551b4cda6ffb63d754a842"), looks := false }, kinds := [], alts := [], laidByText := true, laidKinds := [.data], laidTests := true, laidLooks := .later }
def CycleCardSaid : Prop := Claim7.holds Tryd.pinned (.plain (OpenSpec.ofChange cycleSpec)) cycleCard

/-- THE TIED CARD OF 'collectorsays.Number'. -/
def numberCard : Claim7 := { stood := { row := numberRow, standIns := [], harness := (true, "367d84aefbd677afcf8345e11167ecddf8800c0538551b4cda6ffb63d754a842"), looks := false }, kinds := [], alts := [], laidByText := true, laidKinds := [.data], laidTests := true, laidLooks := .later }
def NumberCardSaid : Prop := Claim7.holds Tryd.pinned (.plain (OpenSpec.ofChange numberSpec)) numberCard

/-- THE TIED CARD OF 'collectorsays.Apart'. -/
def apartCard : Claim7 := { stood := { row := apartRow, standIns := [], harness := (true, "367d84aefbd677afcf8345e11167ecddf8800c0538551b4cda6ffb63d754a842"), looks := false }, kinds := [], alts := [], laidByText := true, laidKinds := [.data], laidTests := true, laidLooks := .later }
def ApartCardSaid : Prop := Claim7.holds Tryd.pinned (.plain (OpenSpec.ofChange apartSpec)) apartCard

/-- THE TIED CARD OF 'collectorsays.Tree'. -/
def treeCard : Claim7 := { stood := { row := treeRow, standIns := [], harness := (true, "367d84aefbd677afcf8345e11167ecddf8800c0538551b4cda6ffb63d754a842"), looks := false }, kinds := [], alts := [], laidByText := true, laidKinds := [.data], laidTests := true, laidLooks := .later }
def TreeCardSaid : Prop := Claim7.holds Tryd.pinned (.plain (OpenSpec.ofChange treeSpec)) treeCard

/-- THE TIED CARD OF 'collectorsays.Sizes'. -/
def sizesCard : Claim7 := { stood := { row := sizesRow, standIns := [], harness := (true, "367d84aefbd677afcf8345e11167ecddf8800c0538551b4cda6ffb63d754a842"), looks := false }, kinds := [], alts := [], laidByText := true, laidKinds := [.data], laidTests := true, laidLooks := .later }
def SizesCardSaid : Prop := Claim7.holds Tryd.pinned (.plain (OpenSpec.ofChange sizesSpec)) sizesCard

/-- THE TIED CARD OF 'collectorlaw.All'. -/
def allCard : Claim7 := { stood := { row := allRow, standIns := [], harness := (true, "367d84aefbd677afcf8345e11167ecddf8800c0538551b4cda6ffb63d754a842"), looks := false }, kinds := [], alts := [], laidByText := true, laidKinds := [.data], laidTests := true, laidLooks := .later }
def AllCardSaid : Prop := Claim7.holds Tryd.pinned (.plain (OpenSpec.ofChange allSpec)) allCard

/-- THE SECOND FORM's CARD OF 'collectorsays.Full'. -/
def fullUptoCard : Claim7 := { stood := { row := fullUptoRow, standIns := [], harness := (true, "367d84aefbd677afcf8345e11167ecddf8800c0538551b4cda6ffb63d754a842"), looks := false }, kinds := [], alts := [], laidByText := true, laidKinds := [.data], laidTests := true, laidLooks := .later }
def FullUptoCardSaid : Prop := Claim7.holds Tryd.pinned (.plain (OpenSpec.upto fullSpec)) fullUptoCard

/-- THE SECOND FORM's CARD OF 'collectorsays.Cycle'. -/
def cycleUptoCard : Claim7 := { stood := { row := cycleUptoRow, standIns := [], harness := (true, "367d84aefbd677afcf8345e11167ecddf8800c0538551b4cda6ffb63d754a842"), looks := false }, kinds := [], alts := [], laidByText := true, laidKinds := [.data], laidTests := true, laidLooks := .later }
def CycleUptoCardSaid : Prop := Claim7.holds Tryd.pinned (.plain (OpenSpec.upto cycleSpec)) cycleUptoCard

/-- THE SECOND FORM's CARD OF 'collectorsays.Number'. -/
def numberUptoCard : Claim7 := { stood := { row := numberUptoRow, standIns := [], harness := (true, "367d84aefbd677afcf8345e11167ecddf8800c0538551b4cda6ffb63d754a842"), looks := false }, kinds := [], alts := [], laidByText := true, laidKinds := [.data], laidTests := true, laidLooks := .later }
def NumberUptoCardSaid : Prop := Claim7.holds Tryd.pinned (.plain (OpenSpec.upto numberSpec)) numberUptoCard

/-- THE SECOND FORM's CARD OF 'collectorsays.Apart'. -/
def apartUptoCard : Claim7 := { stood := { row := apartUptoRow, standIns := [], harness := (true, "367d84aefbd677afcf8345e11167ecddf8800c0538551b4cda6ffb63d754a842"), looks := false }, kinds := [], alts := [], laidByText := true, laidKinds := [.data], laidTests := true, laidLooks := .later }
def ApartUptoCardSaid : Prop := Claim7.holds Tryd.pinned (.plain (OpenSpec.upto apartSpec)) apartUptoCard

/-- THE SECOND FORM's CARD OF 'collectorsays.Tree'. -/
def treeUptoCard : Claim7 := { stood := { row := treeUptoRow, standIns := [], harness := (true, "367d84aefbd677afcf8345e11167ecddf8800c0538551b4cda6ffb63d754a842"), looks := false }, kinds := [], alts := [], laidByText := true, laidKinds := [.data], laidTests := true, laidLooks := .later }
def TreeUptoCardSaid : Prop := Claim7.holds Tryd.pinned (.plain (OpenSpec.upto treeSpec)) treeUptoCard

/-- THE SECOND FORM's CARD OF 'collectorsays.Sizes'. -/
def sizesUptoCard : Claim7 := { stood := { row := sizesUptoRow, standIns := [], harness := (true, "367d84aefbd677afcf8345e11167ecddf8800c0538551b4cda6ffb63d754a842"), looks := false }, kinds := [], alts := [], laidByText := true, laidKinds := [.data], laidTests := true, laidLooks := .later }
def SizesUptoCardSaid : Prop := Claim7.holds Tryd.pinned (.plain (OpenSpec.upto sizesSpec)) sizesUptoCard

/-- THE SECOND FORM's CARD OF 'collectorlaw.All'. -/
def allUptoCard : Claim7 := { stood := { row := allUptoRow, standIns := [], harness := (true, "367d84aefbd677afcf8345e11167ecddf8800c0538551b4cda6ffb63d754a842"), looks := false }, kinds := [], alts := [], laidByText := true, laidKinds := [.data], laidTests := true, laidLooks := .later }
def AllUptoCardSaid : Prop := Claim7.holds Tryd.pinned (.plain (OpenSpec.upto allSpec)) allUptoCard
end Rows
end Go.Proofs.YtgegkcjllliifabDoor
