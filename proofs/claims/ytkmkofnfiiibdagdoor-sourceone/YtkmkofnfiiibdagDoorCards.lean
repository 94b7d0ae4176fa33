/-
  DERIVED. GIVEN WITH THE SEED: THE CARDS: each row of YtkmkofnfiiibdagDoorRows.lean that lists a variable, with what it lists TIED to the program's text (the seventh form; the later family's looks); each row that meets fmt, with fmt's text TOLD by the authors' own Lean function (tested against real Go, not proved from fmt's source: count such statements apart). THE CARD IS WHAT COUNTS. Prove the row's statement (the work); the ties are given (YtkmkofnfiiibdagDoorTie.lean); close each card by the builder's one call (the guide's Derived/Test/ToyasCard.lean, 'card_holds'). Laid BY PROGRAM, IN A SANDBOX (cutbox-door.mjs). By AI agents, Wed Nov 11 2026. No macro, syntax, notation, axiom, sorry.
-/
import Derived.Test.YtkmkofnfiiibdagDoorRows
import GoSem.ClaimSeven
namespace Go.Proofs.YtkmkofnfiiibdagDoor
namespace Rows

/-- THE TIED CARD OF 'fairlaw2.MarkTells'. -/
def markTellsCard : Claim7 := { stood := { row := markTellsRow, standIns := [], harness := (true, "1233472315798989d6269e8b5b450d4abc8e9810851b7d9b15c7032dbdd1e135"), looks := true }, kinds := [], alts := [], laidByText := true, laidKinds := [.handle], laidTests := true, laidLooks := .later }
def MarkTellsCardSaid : Prop := Claim7.holds Tryd.pinned (.plain (OpenSpec.ofChange markTellsSpec)) markTellsCard

/-- THE TIED CARD OF 'fairlaw2.SourceTells'. -/
def sourceTellsCard : Claim7 := { stood := { row := sourceTellsRow, standIns := [], harness := (true, "1233472315798989d6269e8b5b450d4abc8e9810851b7d9b15c7032dbdd1e135"), looks := true }, kinds := [], alts := [], laidByText := true, laidKinds := [.handle], laidTests := true, laidLooks := .later }
def SourceTellsCardSaid : Prop := Claim7.holds Tryd.pinned (.plain (OpenSpec.ofChange sourceTellsSpec)) sourceTellsCard

/-- THE TIED CARD OF 'fairlaw4.SourceOne'. -/
def sourceOneCard : Claim7 := { stood := { row := sourceOneRow, standIns := [], harness := (true, "1233472315798989d6269e8b5b450d4abc8e9810851b7d9b15c7032dbdd1e135"), looks := true }, kinds := [], alts := [], laidByText := true, laidKinds := [.handle], laidTests := true, laidLooks := .later }
def SourceOneCardSaid : Prop := Claim7.holds Tryd.pinned (.plain (OpenSpec.ofChange sourceOneSpec)) sourceOneCard

/-- THE SECOND FORM's CARD OF 'fairlaw2.MarkTells'. -/
def markTellsUptoCard : Claim7 := { stood := { row := markTellsUptoRow, standIns := [], harness := (true, "1233472315798989d6269e8b5b450d4abc8e9810851b7d9b15c7032dbdd1e135"), looks := true }, kinds := [], alts := [], laidByText := true, laidKinds := [.handle], laidTests := true, laidLooks := .later }
def MarkTellsUptoCardSaid : Prop := Claim7.holds Tryd.pinned (.plain (OpenSpec.upto markTellsSpec)) markTellsUptoCard

/-- THE SECOND FORM's CARD OF 'fairlaw2.SourceTells'. -/
def sourceTellsUptoCard : Claim7 := { stood := { row := sourceTellsUptoRow, standIns := [], harness := (true, "1233472315798989d6269e8b5b450d4abc8e9810851b7d9b15c7032dbdd1e135"), looks := true }, kinds := [], alts := [], laidByText := true, laidKinds := [.handle], laidTests := true, laidLooks := .later }
def SourceTellsUptoCardSaid : Prop := Claim7.holds Tryd.pinned (.plain (OpenSpec.upto sourceTellsSpec)) sourceTellsUptoCard

/-- THE SECOND FORM's CARD OF 'fairlaw4.SourceOne'. -/
def sourceOneUptoCard : Claim7 := { stood := { row := sourceOneUptoRow, standIns := [], harness := (true, "1233472315798989d6269e8b5b450d4abc8e9810851b7d9b15c7032dbdd1e135"), looks := true }, kinds := [], alts := [], laidByText := true, laidKinds := [.handle], laidTests := true, laidLooks := .later }
def SourceOneUptoCardSaid : Prop := Claim7.holds Tryd.pinned (.plain (OpenSpec.upto sourceOneSpec)) sourceOneUptoCard
end Rows
end Go.Proofs.YtkmkofnfiiibdagDoor
