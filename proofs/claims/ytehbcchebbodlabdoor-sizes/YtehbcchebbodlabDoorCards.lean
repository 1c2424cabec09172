/-
  DERIVED. GIVEN WITH THE SEED: THE CARDS: each row of YtehbcchebbodlabDoorRows.lean that lists a variable, with what it lists TIED to the program's text (the seventh form; the later family's looks); each row that meets fmt, with fmt's text TOLD by the authors' own Lean function (tested against real Go, not proved from fmt's source: count such statements apart). THE CARD IS WHAT COUNTS. Prove the row's statement (the work); the ties are given (YtehbcchebbodlabDoorTie.lean); close each card by the builder's one call (the guide's Derived/Test/ToyasCard.lean, 'card_holds'). Laid BY PROGRAM, IN A SANDBOX (cutbox-door.mjs). By AI agents, Wed Nov 11 2026. No macro, syntax, notation, axiom, sorry.
-/
import Derived.Test.YtehbcchebbodlabDoorRows
import GoSem.ClaimSeven
namespace Go.Proofs.YtehbcchebbodlabDoor
namespace Rows

/-- THE TIED CARD OF 'collectorsays.Full'. -/
def fullCard : Claim7 := { stood := { row := fullRow, standIns := [], harness := (true, "29429a27d2989180c0bc57d906c1643f122fc0a12551af66c20e48de8b4a02bc"), looks := false }, kinds := [], alts := [], laidByText := true, laidKinds := [.data], laidTests := true, laidLooks := .later }
def FullCardSaid : Prop := Claim7.holds Tryd.pinned (.plain (OpenSpec.ofChange fullSpec)) fullCard

/-- THE TIED CARD OF 'collectorsays.Sizes'. -/
def sizesCard : Claim7 := { stood := { row := sizesRow, standIns := [], harness := (true, "29429a27d2989180c0bc57d906c1643f122fc0a12551af66c20e48de8b4a02bc"), looks := false }, kinds := [], alts := [], laidByText := true, laidKinds := [.data], laidTests := true, laidLooks := .later }
def SizesCardSaid : Prop := Claim7.holds Tryd.pinned (.plain (OpenSpec.ofChange sizesSpec)) sizesCard

/-- THE SECOND FORM's CARD OF 'collectorsays.Full'. -/
def fullUptoCard : Claim7 := { stood := { row := fullUptoRow, standIns := [], harness := (true, "29429a27d2989180c0bc57d906c1643f122fc0a12551af66c20e48de8b4a02bc"), looks := false }, kinds := [], alts := [], laidByText := true, laidKinds := [.data], laidTests := true, laidLooks := .later }
def FullUptoCardSaid : Prop := Claim7.holds Tryd.pinned (.plain (OpenSpec.upto fullSpec)) fullUptoCard

/-- THE SECOND FORM's CARD OF 'collectorsays.Sizes'. -/
def sizesUptoCard : Claim7 := { stood := { row := sizesUptoRow, standIns := [], harness := (true, "29429a27d2989180c0bc57d906c1643f122fc0a12551af66c20e48de8b4a02bc"), looks := false }, kinds := [], alts := [], laidByText := true, laidKinds := [.data], laidTests := true, laidLooks := .later }
def SizesUptoCardSaid : Prop := Claim7.holds Tryd.pinned (.plain (OpenSpec.upto sizesSpec)) sizesUptoCard
end Rows
end Go.Proofs.YtehbcchebbodlabDoor
