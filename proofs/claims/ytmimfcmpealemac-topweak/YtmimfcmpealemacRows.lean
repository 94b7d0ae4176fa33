/-
  No cell of these rows narrows 'for every input' (looked for: loops, veiled, ifaces, maps, wideKeys, modest, calm, conditions, laid).
  DERIVED. THE GIVEN ROWS OF THIS SEAT. 4 by the template 'for every input the law returns true; each argument reads behind the call as it read before'; 0 by the template 'total and deterministic' (their statements: YtmimfcmpealemacTotals.lean).
  GIVEN WITH THE SEED: the statements are not yours to turn. If you find one false, say at which input.
  Laid BY PROGRAM, IN A SANDBOX (cutbox-rows.mjs): the forced cells as the released guide's own fill.sh prints them over the translation 425a4ea6bc5a0135… (all of the seat's roots in one cut). By AI agents, Wed Nov 11 2026. No macro, syntax, notation, axiom, sorry.
-/
import Derived.Test.YtmimfcmpealemacChecked
import GoSem.Claim
import GoSem.ClaimJoined
import GoSem.ClaimMapViews
import Derived.JoinedTies
import Derived.KernelRfl
namespace Go.Proofs.Ytmimfcmpealemac
/- THE CELL 'sum', in the pinned program and in every row, IS THE sha256 OF THE DUMP (.gsa) THAT YtmimfcmpealemacProg.lean LOADS. Nothing in Lean hashes anything: it is a label: what it is worth is what the hold of that sum in a sandbox is worth. -/
noncomputable def Try.pinned : Pinned := { name := "ytmimfcmpealemac", sum := "425a4ea6bc5a01356ac02817be1899c74437ed799e4e191cca9cb3936edfd6fb", checked := Try.checked }
namespace Rows
def none {H : Type} : Left H := { results := [], args := [] }

/-- 'fairtop.TopWeak': WHATEVER THE INPUT: true; the input reads as it did. -/
def topWeakSpec : ChangeSpec := { name := "topWeak", fn := fun _ => fun
  | [d1, d2, d3] => { results := [.lit (.bool true)], args := [d1, d2, d3] }
  | _ => none }
def topWeakRow : OpenClaim := { program := "ytmimfcmpealemac", sum := "425a4ea6bc5a01356ac02817be1899c74437ed799e4e191cca9cb3936edfd6fb", func := "fairsluice/fairtop.TopWeak", spec := "topWeak", unfollowed := true, recurses := true, apart := false }
def TopWeakSaid : Prop := topWeakRow.holds Try.pinned (OpenSpec.ofChange topWeakSpec)

/-- ITS FALSE NEIGHBOUR: 'it returns false'. Refute it at one input. -/
def topWeakWrong : ChangeSpec := { name := "topWeak", fn := fun _ => fun
  | [d1, d2, d3] => { results := [.lit (.bool false)], args := [d1, d2, d3] }
  | _ => none }
def TopWeakWrongFalsely : Prop := topWeakRow.holds Try.pinned (OpenSpec.ofChange topWeakWrong)

/-- 'fairlaw1.FillFair': WHATEVER THE INPUT: true; the input reads as it did. -/
def fillFairSpec : ChangeSpec := { name := "fillFair", fn := fun _ => fun
  | [d] => { results := [.lit (.bool true)], args := [d] }
  | _ => none }
def fillFairRow : OpenClaim := { program := "ytmimfcmpealemac", sum := "425a4ea6bc5a01356ac02817be1899c74437ed799e4e191cca9cb3936edfd6fb", func := "fairsluice/fairlaw1.FillFair", spec := "fillFair", unfollowed := true, recurses := true, apart := false }
def FillFairSaid : Prop := fillFairRow.holds Try.pinned (OpenSpec.ofChange fillFairSpec)

/-- ITS FALSE NEIGHBOUR: 'it returns false'. Refute it at one input. -/
def fillFairWrong : ChangeSpec := { name := "fillFair", fn := fun _ => fun
  | [d] => { results := [.lit (.bool false)], args := [d] }
  | _ => none }
def FillFairWrongFalsely : Prop := fillFairRow.holds Try.pinned (OpenSpec.ofChange fillFairWrong)

/-- 'fairlaw1.NeckOnly': WHATEVER THE INPUT: true; the input reads as it did. -/
def neckOnlySpec : ChangeSpec := { name := "neckOnly", fn := fun _ => fun
  | [d1, d2] => { results := [.lit (.bool true)], args := [d1, d2] }
  | _ => none }
def neckOnlyRow : OpenClaim := { program := "ytmimfcmpealemac", sum := "425a4ea6bc5a01356ac02817be1899c74437ed799e4e191cca9cb3936edfd6fb", func := "fairsluice/fairlaw1.NeckOnly", spec := "neckOnly", unfollowed := true, recurses := true, apart := false }
def NeckOnlySaid : Prop := neckOnlyRow.holds Try.pinned (OpenSpec.ofChange neckOnlySpec)

/-- ITS FALSE NEIGHBOUR: 'it returns false'. Refute it at one input. -/
def neckOnlyWrong : ChangeSpec := { name := "neckOnly", fn := fun _ => fun
  | [d1, d2] => { results := [.lit (.bool false)], args := [d1, d2] }
  | _ => none }
def NeckOnlyWrongFalsely : Prop := neckOnlyRow.holds Try.pinned (OpenSpec.ofChange neckOnlyWrong)

/-- 'fairlaw4.NeckNone': WHATEVER THE INPUT: true; the input reads as it did. -/
def neckNoneSpec : ChangeSpec := { name := "neckNone", fn := fun _ => fun
  | [d] => { results := [.lit (.bool true)], args := [d] }
  | _ => none }
def neckNoneRow : OpenClaim := { program := "ytmimfcmpealemac", sum := "425a4ea6bc5a01356ac02817be1899c74437ed799e4e191cca9cb3936edfd6fb", func := "fairsluice/fairlaw4.NeckNone", spec := "neckNone", unfollowed := true, recurses := true, apart := false }
def NeckNoneSaid : Prop := neckNoneRow.holds Try.pinned (OpenSpec.ofChange neckNoneSpec)

/-- ITS FALSE NEIGHBOUR: 'it returns false'. Refute it at one input. -/
def neckNoneWrong : ChangeSpec := { name := "neckNone", fn := fun _ => fun
  | [d] => { results := [.lit (.bool false)], args := [d] }
  | _ => none }
def NeckNoneWrongFalsely : Prop := neckNoneRow.holds Try.pinned (OpenSpec.ofChange neckNoneWrong)

/- THE SECOND FORM. 'bulk': how many values and letters a reading holds, each counted each time it is reached (what is shared counts as often as it is met; a slice's spare places count too). A statement '..UptoSaid' is the law's where the arguments, and the package variables that the reading takes, are together of bulk at most 1048576: NARROWER than '..Said'. Prove '..Said' where nothing that the law and all that it calls make is longer than what came in: it says more and counts as full. Else prove '..UptoSaid'. A law counts once. -/
mutual
def uptoBulk {H : Type} : DataW H → Nat
  | .lit (.string bytes) => bytes.length + 1
  | .lit _ => 1
  | .nil => 1
  | .ptr d => uptoBulk d + 1
  | .slice elems spare => uptoBulkAll elems + uptoBulkAll spare + 1
  | .agg parts => uptoBulkAll parts + 1
  | .iface _ d => uptoBulk d + 1
  | .map entries => uptoBulkEntries entries + 1
  | .held _ => 1
def uptoBulkAll {H : Type} : List (DataW H) → Nat
  | [] => 0
  | d :: r => uptoBulk d + uptoBulkAll r
def uptoBulkEntries {H : Type} : List (Lit × DataW H) → Nat
  | [] => 0
  | x :: r => uptoBulkEntry x + uptoBulkEntries r
def uptoBulkEntry {H : Type} : Lit × DataW H → Nat
  | (.string bytes, d) => bytes.length + uptoBulk d + 1
  | (_, d) => uptoBulk d + 1
 end
def uptoSmall : (H : Type) → List (DataW H) → Bool := fun _ ds => decide (uptoBulkAll ds ≤ 1048576)
def OpenSpec.upto (s : _root_.Go.ChangeSpec) : _root_.Go.OpenSpec := { _root_.Go.OpenSpec.ofChange s with cond := some uptoSmall }

/-- 'fairtop.TopWeak', WHERE WHAT IT READS IS OF BULK AT MOST 1048576: true; the input reads as it did. -/
def topWeakUptoRow : OpenClaim := { program := "ytmimfcmpealemac", sum := "425a4ea6bc5a01356ac02817be1899c74437ed799e4e191cca9cb3936edfd6fb", func := "fairsluice/fairtop.TopWeak", spec := "topWeak", unfollowed := true, recurses := true, apart := false, narrowed := true }
def TopWeakUptoSaid : Prop := topWeakUptoRow.holds Try.pinned (OpenSpec.upto topWeakSpec)

/-- 'fairlaw1.FillFair', WHERE WHAT IT READS IS OF BULK AT MOST 1048576: true; the input reads as it did. -/
def fillFairUptoRow : OpenClaim := { program := "ytmimfcmpealemac", sum := "425a4ea6bc5a01356ac02817be1899c74437ed799e4e191cca9cb3936edfd6fb", func := "fairsluice/fairlaw1.FillFair", spec := "fillFair", unfollowed := true, recurses := true, apart := false, narrowed := true }
def FillFairUptoSaid : Prop := fillFairUptoRow.holds Try.pinned (OpenSpec.upto fillFairSpec)

/-- 'fairlaw1.NeckOnly', WHERE WHAT IT READS IS OF BULK AT MOST 1048576: true; the input reads as it did. -/
def neckOnlyUptoRow : OpenClaim := { program := "ytmimfcmpealemac", sum := "425a4ea6bc5a01356ac02817be1899c74437ed799e4e191cca9cb3936edfd6fb", func := "fairsluice/fairlaw1.NeckOnly", spec := "neckOnly", unfollowed := true, recurses := true, apart := false, narrowed := true }
def NeckOnlyUptoSaid : Prop := neckOnlyUptoRow.holds Try.pinned (OpenSpec.upto neckOnlySpec)

/-- 'fairlaw4.NeckNone', WHERE WHAT IT READS IS OF BULK AT MOST 1048576: true; the input reads as it did. -/
def neckNoneUptoRow : OpenClaim := { program := "ytmimfcmpealemac", sum := "425a4ea6bc5a01356ac02817be1899c74437ed799e4e191cca9cb3936edfd6fb", func := "fairsluice/fairlaw4.NeckNone", spec := "neckNone", unfollowed := true, recurses := true, apart := false, narrowed := true }
def NeckNoneUptoSaid : Prop := neckNoneUptoRow.holds Try.pinned (OpenSpec.upto neckNoneSpec)

end Rows
end Go.Proofs.Ytmimfcmpealemac
