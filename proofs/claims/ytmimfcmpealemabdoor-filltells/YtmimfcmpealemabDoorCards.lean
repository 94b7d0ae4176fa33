/-
  DERIVED. GIVEN WITH THE SEED: THE CARDS: each row of YtmimfcmpealemabDoorRows.lean that lists a variable, with what it lists TIED to the program's text (the seventh form; the later family's looks); each row that meets fmt, with fmt's text TOLD by the authors' own Lean function (tested against real Go, not proved from fmt's source: count such statements apart). THE CARD IS WHAT COUNTS. Prove the row's statement (the work); the ties are given (YtmimfcmpealemabDoorTie.lean); close each card by the builder's one call (the guide's Derived/Test/ToyasCard.lean, 'card_holds'). Laid BY PROGRAM, IN A SANDBOX (cutbox-door.mjs). By AI agents, Wed Nov 11 2026. No macro, syntax, notation, axiom, sorry.
-/
import Derived.Test.YtmimfcmpealemabDoorRows
import GoSem.ClaimSeven
namespace Go.Proofs.YtmimfcmpealemabDoor
namespace Rows

/-- THE TIED CARD OF 'fairlaw4.NetLone'. -/
def netLoneCard : Claim7 := { stood := { row := netLoneRow, standIns := [], harness := (true, "e8c33c2693ecc347bb95331892c0a069cfbb27e5500018a2303c6034b279b874"), looks := true }, kinds := [], alts := [], laidByText := true, laidKinds := [.handle], laidTests := true, laidLooks := .later }
def NetLoneCardSaid : Prop := Claim7.holds Tryd.pinned (.plain (OpenSpec.ofChange netLoneSpec)) netLoneCard

/-- THE TIED CARD OF 'fairlaw1.LoadTells'. -/
def loadTellsCard : Claim7 := { stood := { row := loadTellsRow, standIns := [], harness := (true, "e8c33c2693ecc347bb95331892c0a069cfbb27e5500018a2303c6034b279b874"), looks := true }, kinds := [], alts := [], laidByText := true, laidKinds := [.handle], laidTests := true, laidLooks := .later }
def LoadTellsCardSaid : Prop := Claim7.holds Tryd.pinned (.plain (OpenSpec.ofChange loadTellsSpec)) loadTellsCard

/-- THE TIED CARD OF 'fairlaw1.FillTells'. -/
def fillTellsCard : Claim7 := { stood := { row := fillTellsRow, standIns := [], harness := (true, "e8c33c2693ecc347bb95331892c0a069cfbb27e5500018a2303c6034b279b874"), looks := true }, kinds := [], alts := [], laidByText := true, laidKinds := [.handle], laidTests := true, laidLooks := .later }
def FillTellsCardSaid : Prop := Claim7.holds Tryd.pinned (.plain (OpenSpec.ofChange fillTellsSpec)) fillTellsCard

/-- THE SECOND FORM's CARD OF 'fairlaw4.NetLone'. -/
def netLoneUptoCard : Claim7 := { stood := { row := netLoneUptoRow, standIns := [], harness := (true, "e8c33c2693ecc347bb95331892c0a069cfbb27e5500018a2303c6034b279b874"), looks := true }, kinds := [], alts := [], laidByText := true, laidKinds := [.handle], laidTests := true, laidLooks := .later }
def NetLoneUptoCardSaid : Prop := Claim7.holds Tryd.pinned (.plain (OpenSpec.upto netLoneSpec)) netLoneUptoCard

/-- THE SECOND FORM's CARD OF 'fairlaw1.LoadTells'. -/
def loadTellsUptoCard : Claim7 := { stood := { row := loadTellsUptoRow, standIns := [], harness := (true, "e8c33c2693ecc347bb95331892c0a069cfbb27e5500018a2303c6034b279b874"), looks := true }, kinds := [], alts := [], laidByText := true, laidKinds := [.handle], laidTests := true, laidLooks := .later }
def LoadTellsUptoCardSaid : Prop := Claim7.holds Tryd.pinned (.plain (OpenSpec.upto loadTellsSpec)) loadTellsUptoCard

/-- THE SECOND FORM's CARD OF 'fairlaw1.FillTells'. -/
def fillTellsUptoCard : Claim7 := { stood := { row := fillTellsUptoRow, standIns := [], harness := (true, "e8c33c2693ecc347bb95331892c0a069cfbb27e5500018a2303c6034b279b874"), looks := true }, kinds := [], alts := [], laidByText := true, laidKinds := [.handle], laidTests := true, laidLooks := .later }
def FillTellsUptoCardSaid : Prop := Claim7.holds Tryd.pinned (.plain (OpenSpec.upto fillTellsSpec)) fillTellsUptoCard
end Rows
end Go.Proofs.YtmimfcmpealemabDoor
