/-
  DERIVED. GIVEN WITH THE SEED: THE CARDS: each row of YtmimfcmpealemadDoorRows.lean that lists a variable, with what it lists TIED to the program's text (the seventh form; the later family's looks); each row that meets fmt, with fmt's text TOLD by the authors' own Lean function (tested against real Go, not proved from fmt's source: count such statements apart). THE CARD IS WHAT COUNTS. Prove the row's statement (the work); the ties are given (YtmimfcmpealemadDoorTie.lean); close each card by the builder's one call (the guide's Derived/Test/ToyasCard.lean, 'card_holds'). Laid BY PROGRAM, IN A SANDBOX (cutbox-door.mjs). By AI agents, Wed Nov 11 2026. No macro, syntax, notation, axiom, sorry.
-/
import Derived.Test.YtmimfcmpealemadDoorRows
import GoSem.ClaimSeven
namespace Go.Proofs.YtmimfcmpealemadDoor
namespace Rows

/-- THE TIED CARD OF 'fairlaw1.WantTells'. -/
def wantTellsCard : Claim7 := { stood := { row := wantTellsRow, standIns := [], harness := (true, "3e8568e4333167839f345207471a78cbe94778d8851bca7b664e6fae146e6381"), looks := true }, kinds := [], alts := [], laidByText := true, laidKinds := [.handle], laidTests := true, laidLooks := .later }
def WantTellsCardSaid : Prop := Claim7.holds Tryd.pinned (.plain (OpenSpec.ofChange wantTellsSpec)) wantTellsCard

/-- THE TIED CARD OF 'fairlaw1.WantSated'. -/
def wantSatedCard : Claim7 := { stood := { row := wantSatedRow, standIns := [], harness := (true, "3e8568e4333167839f345207471a78cbe94778d8851bca7b664e6fae146e6381"), looks := true }, kinds := [], alts := [], laidByText := true, laidKinds := [.handle], laidTests := true, laidLooks := .later }
def WantSatedCardSaid : Prop := Claim7.holds Tryd.pinned (.plain (OpenSpec.ofChange wantSatedSpec)) wantSatedCard

/-- THE SECOND FORM's CARD OF 'fairlaw1.WantTells'. -/
def wantTellsUptoCard : Claim7 := { stood := { row := wantTellsUptoRow, standIns := [], harness := (true, "3e8568e4333167839f345207471a78cbe94778d8851bca7b664e6fae146e6381"), looks := true }, kinds := [], alts := [], laidByText := true, laidKinds := [.handle], laidTests := true, laidLooks := .later }
def WantTellsUptoCardSaid : Prop := Claim7.holds Tryd.pinned (.plain (OpenSpec.upto wantTellsSpec)) wantTellsUptoCard

/-- THE SECOND FORM's CARD OF 'fairlaw1.WantSated'. -/
def wantSatedUptoCard : Claim7 := { stood := { row := wantSatedUptoRow, standIns := [], harness := (true, "3e8568e4333167839f345207471a78cbe94778d8851bca7b664e6fae146e6381"), looks := true }, kinds := [], alts := [], laidByText := true, laidKinds := [.handle], laidTests := true, laidLooks := .later }
def WantSatedUptoCardSaid : Prop := Claim7.holds Tryd.pinned (.plain (OpenSpec.upto wantSatedSpec)) wantSatedUptoCard
end Rows
end Go.Proofs.YtmimfcmpealemadDoor
