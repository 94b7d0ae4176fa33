/-
  DERIVED. GIVEN WITH THE SEED: THE CARDS: each row of YtcleeepbpibcfacDoorRows.lean that lists a variable, with what it lists TIED to the program's text (the seventh form; the later family's looks); each row that meets fmt, with fmt's text TOLD by the authors' own Lean function (tested against real Go, not proved from fmt's source: count such statements apart). THE CARD IS WHAT COUNTS. Prove the row's statement (the work); the ties are given (YtcleeepbpibcfacDoorTie.lean); close each card by the builder's one call (the guide's Derived/Test/ToyasCard.lean, 'card_holds'). Laid BY PROGRAM, IN A SANDBOX (cutbox-door.mjs). By AI agents, Wed Nov 11 2026. No macro, syntax, notation, axiom, sorry.
-/
import Derived.Test.YtcleeepbpibcfacDoorRows
import GoSem.ClaimSeven
namespace Go.Proofs.YtcleeepbpibcfacDoor
namespace Rows

/-- THE TIED CARD OF 'fairlaw1.NeckTells'. -/
def neckTellsCard : Claim7 := { stood := { row := neckTellsRow, standIns := [], harness := (true, "7e48cb228ed46a921b7be71326c274fa487c8e1aeeb60644e3cacbe9f5e765db"), looks := true }, kinds := [], alts := [], laidByText := true, laidKinds := [.handle], laidTests := true, laidLooks := .later }
def NeckTellsCardSaid : Prop := Claim7.holds Tryd.pinned (.plain (OpenSpec.ofChange neckTellsSpec)) neckTellsCard

/-- THE TIED CARD OF 'fairlaw1.RankTells'. -/
def rankTellsCard : Claim7 := { stood := { row := rankTellsRow, standIns := [], harness := (true, "7e48cb228ed46a921b7be71326c274fa487c8e1aeeb60644e3cacbe9f5e765db"), looks := true }, kinds := [], alts := [], laidByText := true, laidKinds := [.handle], laidTests := true, laidLooks := .later }
def RankTellsCardSaid : Prop := Claim7.holds Tryd.pinned (.plain (OpenSpec.ofChange rankTellsSpec)) rankTellsCard

/-- THE SECOND FORM's CARD OF 'fairlaw1.NeckTells'. -/
def neckTellsUptoCard : Claim7 := { stood := { row := neckTellsUptoRow, standIns := [], harness := (true, "7e48cb228ed46a921b7be71326c274fa487c8e1aeeb60644e3cacbe9f5e765db"), looks := true }, kinds := [], alts := [], laidByText := true, laidKinds := [.handle], laidTests := true, laidLooks := .later }
def NeckTellsUptoCardSaid : Prop := Claim7.holds Tryd.pinned (.plain (OpenSpec.upto neckTellsSpec)) neckTellsUptoCard

/-- THE SECOND FORM's CARD OF 'fairlaw1.RankTells'. -/
def rankTellsUptoCard : Claim7 := { stood := { row := rankTellsUptoRow, standIns := [], harness := (true, "7e48cb228ed46a921b7be71326c274fa487c8e1aeeb60644e3cacbe9f5e765db"), looks := true }, kinds := [], alts := [], laidByText := true, laidKinds := [.handle], laidTests := true, laidLooks := .later }
def RankTellsUptoCardSaid : Prop := Claim7.holds Tryd.pinned (.plain (OpenSpec.upto rankTellsSpec)) rankTellsUptoCard
end Rows
end Go.Proofs.YtcleeepbpibcfacDoor
