/-
  DERIVED. GIVEN WITH THE SEED: THE CARDS: each row of YtmoeaaocpnoibabDoorRows.lean that lists a variable, with what it lists TIED to the program's text (the seventh form; the later family's looks); each row that meets fmt, with fmt's text TOLD by the authors' own Lean function (tested against real Go, not proved from fmt's source: count such statements apart). THE CARD IS WHAT COUNTS. Prove the row's statement (the work); the ties are given (YtmoeaaocpnoibabDoorTie.lean); close each card by the builder's one call (the guide's Derived/Test/ToyasCard.lean, 'card_holds'). Laid BY PROGRAM, IN A SANDBOX (cutbox-door.mjs). By AI agents, Wed Nov 11 2026. No macro, syntax, notation, axiom, sorry.
-/
import Derived.Test.YtmoeaaocpnoibabDoorRows
import GoSem.ClaimSeven
namespace Go.Proofs.YtmoeaaocpnoibabDoor
namespace Rows

/-- THE TIED CARD OF 'fairlaw4.NetLone'. -/
def netLoneCard : Claim7 := { stood := { row := netLoneRow, standIns := [], harness := (true, "ea3c529ad568b6c79d5855747b6dc394d9a8796037bbf7930499b4d93c5b1d25"), looks := true }, kinds := [], alts := [], laidByText := true, laidKinds := [.handle], laidTests := true, laidLooks := .later }
def NetLoneCardSaid : Prop := Claim7.holds Tryd.pinned (.plain (OpenSpec.ofChange netLoneSpec)) netLoneCard

/-- THE TIED CARD OF 'fairlaw1.LoadTells'. -/
def loadTellsCard : Claim7 := { stood := { row := loadTellsRow, standIns := [], harness := (true, "ea3c529ad568b6c79d5855747b6dc394d9a8796037bbf7930499b4d93c5b1d25"), looks := true }, kinds := [], alts := [], laidByText := true, laidKinds := [.handle], laidTests := true, laidLooks := .later }
def LoadTellsCardSaid : Prop := Claim7.holds Tryd.pinned (.plain (OpenSpec.ofChange loadTellsSpec)) loadTellsCard

/-- THE SECOND FORM's CARD OF 'fairlaw4.NetLone'. -/
def netLoneUptoCard : Claim7 := { stood := { row := netLoneUptoRow, standIns := [], harness := (true, "ea3c529ad568b6c79d5855747b6dc394d9a8796037bbf7930499b4d93c5b1d25"), looks := true }, kinds := [], alts := [], laidByText := true, laidKinds := [.handle], laidTests := true, laidLooks := .later }
def NetLoneUptoCardSaid : Prop := Claim7.holds Tryd.pinned (.plain (OpenSpec.upto netLoneSpec)) netLoneUptoCard

/-- THE SECOND FORM's CARD OF 'fairlaw1.LoadTells'. -/
def loadTellsUptoCard : Claim7 := { stood := { row := loadTellsUptoRow, standIns := [], harness := (true, "ea3c529ad568b6c79d5855747b6dc394d9a8796037bbf7930499b4d93c5b1d25"), looks := true }, kinds := [], alts := [], laidByText := true, laidKinds := [.handle], laidTests := true, laidLooks := .later }
def LoadTellsUptoCardSaid : Prop := Claim7.holds Tryd.pinned (.plain (OpenSpec.upto loadTellsSpec)) loadTellsUptoCard
end Rows
end Go.Proofs.YtmoeaaocpnoibabDoor
