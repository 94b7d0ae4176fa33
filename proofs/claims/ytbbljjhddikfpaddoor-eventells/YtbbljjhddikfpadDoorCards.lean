/-
  DERIVED. GIVEN WITH THE SEED: THE CARDS: each row of YtbbljjhddikfpadDoorRows.lean that lists a variable, with what it lists TIED to the program's text (the seventh form; the later family's looks); each row that meets fmt, with fmt's text TOLD by the authors' own Lean function (tested against real Go, not proved from fmt's source: count such statements apart). THE CARD IS WHAT COUNTS. Prove the row's statement (the work); the ties are given (YtbbljjhddikfpadDoorTie.lean); close each card by the builder's one call (the guide's Derived/Test/ToyasCard.lean, 'card_holds'). Laid BY PROGRAM, IN A SANDBOX (cutbox-door.mjs). By AI agents, Wed Nov 11 2026. No macro, syntax, notation, axiom, sorry.
-/
import Derived.Test.YtbbljjhddikfpadDoorRows
import GoSem.ClaimSeven
namespace Go.Proofs.YtbbljjhddikfpadDoor
namespace Rows

/-- THE TIED CARD OF 'fairlaw1.WantTells'. -/
def wantTellsCard : Claim7 := { stood := { row := wantTellsRow, standIns := [], harness := (true, "ee1699d7df4f7ddb3816e9a79ee12109da6ac88f5868facf0e8c6bb825da2b1d"), looks := true }, kinds := [], alts := [], laidByText := true, laidKinds := [.handle], laidTests := true, laidLooks := .later }
def WantTellsCardSaid : Prop := Claim7.holds Tryd.pinned (.plain (OpenSpec.ofChange wantTellsSpec)) wantTellsCard

/-- THE TIED CARD OF 'fairlaw1.WantSated'. -/
def wantSatedCard : Claim7 := { stood := { row := wantSatedRow, standIns := [], harness := (true, "ee1699d7df4f7ddb3816e9a79ee12109da6ac88f5868facf0e8c6bb825da2b1d"), looks := true }, kinds := [], alts := [], laidByText := true, laidKinds := [.handle], laidTests := true, laidLooks := .later }
def WantSatedCardSaid : Prop := Claim7.holds Tryd.pinned (.plain (OpenSpec.ofChange wantSatedSpec)) wantSatedCard

/-- THE TIED CARD OF 'fairlaw1.EvenTells'. -/
def evenTellsCard : Claim7 := { stood := { row := evenTellsRow, standIns := [], harness := (true, "ee1699d7df4f7ddb3816e9a79ee12109da6ac88f5868facf0e8c6bb825da2b1d"), looks := true }, kinds := [], alts := [], laidByText := true, laidKinds := [.handle], laidTests := true, laidLooks := .later }
def EvenTellsCardSaid : Prop := Claim7.holds Tryd.pinned (.plain (OpenSpec.ofChange evenTellsSpec)) evenTellsCard

/-- THE SECOND FORM's CARD OF 'fairlaw1.WantTells'. -/
def wantTellsUptoCard : Claim7 := { stood := { row := wantTellsUptoRow, standIns := [], harness := (true, "ee1699d7df4f7ddb3816e9a79ee12109da6ac88f5868facf0e8c6bb825da2b1d"), looks := true }, kinds := [], alts := [], laidByText := true, laidKinds := [.handle], laidTests := true, laidLooks := .later }
def WantTellsUptoCardSaid : Prop := Claim7.holds Tryd.pinned (.plain (OpenSpec.upto wantTellsSpec)) wantTellsUptoCard

/-- THE SECOND FORM's CARD OF 'fairlaw1.WantSated'. -/
def wantSatedUptoCard : Claim7 := { stood := { row := wantSatedUptoRow, standIns := [], harness := (true, "ee1699d7df4f7ddb3816e9a79ee12109da6ac88f5868facf0e8c6bb825da2b1d"), looks := true }, kinds := [], alts := [], laidByText := true, laidKinds := [.handle], laidTests := true, laidLooks := .later }
def WantSatedUptoCardSaid : Prop := Claim7.holds Tryd.pinned (.plain (OpenSpec.upto wantSatedSpec)) wantSatedUptoCard

/-- THE SECOND FORM's CARD OF 'fairlaw1.EvenTells'. -/
def evenTellsUptoCard : Claim7 := { stood := { row := evenTellsUptoRow, standIns := [], harness := (true, "ee1699d7df4f7ddb3816e9a79ee12109da6ac88f5868facf0e8c6bb825da2b1d"), looks := true }, kinds := [], alts := [], laidByText := true, laidKinds := [.handle], laidTests := true, laidLooks := .later }
def EvenTellsUptoCardSaid : Prop := Claim7.holds Tryd.pinned (.plain (OpenSpec.upto evenTellsSpec)) evenTellsUptoCard
end Rows
end Go.Proofs.YtbbljjhddikfpadDoor
