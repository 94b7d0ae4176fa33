/-
  DERIVED. GIVEN WITH THE SEED: THE CARDS: each row of YtoahbapdcghokafDoorRows.lean that lists a variable, with what it lists TIED to the program's text (the seventh form; the later family's looks); each row that meets fmt, with fmt's text TOLD by the authors' own Lean function (tested against real Go, not proved from fmt's source: count such statements apart). THE CARD IS WHAT COUNTS. Prove the row's statement (the work); the ties are given (YtoahbapdcghokafDoorTie.lean); close each card by the builder's one call (the guide's Derived/Test/ToyasCard.lean, 'card_holds'). Laid BY PROGRAM, IN A SANDBOX (cutbox-door.mjs). By AI agents, Wed Nov 11 2026. No macro, syntax, notation, axiom, sorry.
-/
import Derived.Test.YtoahbapdcghokafDoorRows
import GoSem.ClaimSeven
namespace Go.Proofs.YtoahbapdcghokafDoor
namespace Rows

/-- THE TIED CARD OF 'fairlaw4.BucketFull'. -/
def bucketFullCard : Claim7 := { stood := { row := bucketFullRow, standIns := [], harness := (true, "e29ed2f8e668f7c8a2d779858c4110d5528384ea6f363de569f43016b962558b"), looks := true }, kinds := [], alts := [], laidByText := true, laidKinds := [.handle], laidTests := true, laidLooks := .later }
def BucketFullCardSaid : Prop := Claim7.holds Tryd.pinned (.plain (OpenSpec.ofChange bucketFullSpec)) bucketFullCard

/-- THE TIED CARD OF 'fairlaw2.PoolTells'. -/
def poolTellsCard : Claim7 := { stood := { row := poolTellsRow, standIns := [], harness := (true, "e29ed2f8e668f7c8a2d779858c4110d5528384ea6f363de569f43016b962558b"), looks := true }, kinds := [], alts := [], laidByText := true, laidKinds := [.handle], laidTests := true, laidLooks := .later }
def PoolTellsCardSaid : Prop := Claim7.holds Tryd.pinned (.plain (OpenSpec.ofChange poolTellsSpec)) poolTellsCard

/-- THE SECOND FORM's CARD OF 'fairlaw4.BucketFull'. -/
def bucketFullUptoCard : Claim7 := { stood := { row := bucketFullUptoRow, standIns := [], harness := (true, "e29ed2f8e668f7c8a2d779858c4110d5528384ea6f363de569f43016b962558b"), looks := true }, kinds := [], alts := [], laidByText := true, laidKinds := [.handle], laidTests := true, laidLooks := .later }
def BucketFullUptoCardSaid : Prop := Claim7.holds Tryd.pinned (.plain (OpenSpec.upto bucketFullSpec)) bucketFullUptoCard

/-- THE SECOND FORM's CARD OF 'fairlaw2.PoolTells'. -/
def poolTellsUptoCard : Claim7 := { stood := { row := poolTellsUptoRow, standIns := [], harness := (true, "e29ed2f8e668f7c8a2d779858c4110d5528384ea6f363de569f43016b962558b"), looks := true }, kinds := [], alts := [], laidByText := true, laidKinds := [.handle], laidTests := true, laidLooks := .later }
def PoolTellsUptoCardSaid : Prop := Claim7.holds Tryd.pinned (.plain (OpenSpec.upto poolTellsSpec)) poolTellsUptoCard
end Rows
end Go.Proofs.YtoahbapdcghokafDoor
