/-
  No cell of these rows narrows 'for every input' (looked for: loops, veiled, ifaces, maps, wideKeys, modest, calm, conditions, laid).
  DERIVED. THE GIVEN ROWS OF THIS SEAT. 5 by the template 'for every input the law returns true; each argument reads behind the call as it read before'; 0 by the template 'total and deterministic' (their statements: YtkpmjmgmgkdfnaiTotals.lean).
  GIVEN WITH THE SEED: the statements are not yours to turn. If you find one false, say at which input.
  Laid BY PROGRAM, IN A SANDBOX (cutbox-rows.mjs): the forced cells as the released guide's own fill.sh prints them over the translation 1dec245a8374e8b3… (all of the seat's roots in one cut). By AI agents, Wed Nov 11 2026. No macro, syntax, notation, axiom, sorry.
-/
import Derived.Test.YtkpmjmgmgkdfnaiChecked
import GoSem.Claim
import GoSem.ClaimJoined
import GoSem.ClaimMapViews
import Derived.JoinedTies
import Derived.KernelRfl
namespace Go.Proofs.Ytkpmjmgmgkdfnai
/- THE CELL 'sum', in the pinned program and in every row, IS THE sha256 OF THE DUMP (.gsa) THAT YtkpmjmgmgkdfnaiProg.lean LOADS. Nothing in Lean hashes anything: it is a label: what it is worth is what the hold of that sum in a sandbox is worth. -/
noncomputable def Try.pinned : Pinned := { name := "ytkpmjmgmgkdfnai", sum := "1dec245a8374e8b35a765beea37281247933f2f4ec5f880e0a458dd526bcd07a", checked := Try.checked }
namespace Rows
def none {H : Type} : Left H := { results := [], args := [] }

/-- 'fairtop.TopEvens': WHATEVER THE INPUT: true; the input reads as it did. -/
def topEvensSpec : ChangeSpec := { name := "topEvens", fn := fun _ => fun
  | [d1, d2, d3] => { results := [.lit (.bool true)], args := [d1, d2, d3] }
  | _ => none }
def topEvensRow : OpenClaim := { program := "ytkpmjmgmgkdfnai", sum := "1dec245a8374e8b35a765beea37281247933f2f4ec5f880e0a458dd526bcd07a", func := "fairsluice/fairtop.TopEvens", spec := "topEvens", unfollowed := true, recurses := true, apart := false }
def TopEvensSaid : Prop := topEvensRow.holds Try.pinned (OpenSpec.ofChange topEvensSpec)

/-- ITS FALSE NEIGHBOUR: 'it returns false'. Refute it at one input. -/
def topEvensWrong : ChangeSpec := { name := "topEvens", fn := fun _ => fun
  | [d1, d2, d3] => { results := [.lit (.bool false)], args := [d1, d2, d3] }
  | _ => none }
def TopEvensWrongFalsely : Prop := topEvensRow.holds Try.pinned (OpenSpec.ofChange topEvensWrong)

/-- 'fairlaw2.MeterStays': WHATEVER THE INPUT: true; the input reads as it did. -/
def meterStaysSpec : ChangeSpec := { name := "meterStays", fn := fun _ => fun
  | [d1, d2, d3] => { results := [.lit (.bool true)], args := [d1, d2, d3] }
  | _ => none }
def meterStaysRow : OpenClaim := { program := "ytkpmjmgmgkdfnai", sum := "1dec245a8374e8b35a765beea37281247933f2f4ec5f880e0a458dd526bcd07a", func := "fairsluice/fairlaw2.MeterStays", spec := "meterStays", apart := false }
def MeterStaysSaid : Prop := meterStaysRow.holds Try.pinned (OpenSpec.ofChange meterStaysSpec)

/-- ITS FALSE NEIGHBOUR: 'it returns false'. Refute it at one input. -/
def meterStaysWrong : ChangeSpec := { name := "meterStays", fn := fun _ => fun
  | [d1, d2, d3] => { results := [.lit (.bool false)], args := [d1, d2, d3] }
  | _ => none }
def MeterStaysWrongFalsely : Prop := meterStaysRow.holds Try.pinned (OpenSpec.ofChange meterStaysWrong)

/-- 'fairlaw4.MeterIdle': WHATEVER THE INPUT: true; the input reads as it did. -/
def meterIdleSpec : ChangeSpec := { name := "meterIdle", fn := fun _ => fun
  | [d1, d2] => { results := [.lit (.bool true)], args := [d1, d2] }
  | _ => none }
def meterIdleRow : OpenClaim := { program := "ytkpmjmgmgkdfnai", sum := "1dec245a8374e8b35a765beea37281247933f2f4ec5f880e0a458dd526bcd07a", func := "fairsluice/fairlaw4.MeterIdle", spec := "meterIdle", unfollowed := true, recurses := true, apart := false }
def MeterIdleSaid : Prop := meterIdleRow.holds Try.pinned (OpenSpec.ofChange meterIdleSpec)

/-- ITS FALSE NEIGHBOUR: 'it returns false'. Refute it at one input. -/
def meterIdleWrong : ChangeSpec := { name := "meterIdle", fn := fun _ => fun
  | [d1, d2] => { results := [.lit (.bool false)], args := [d1, d2] }
  | _ => none }
def MeterIdleWrongFalsely : Prop := meterIdleRow.holds Try.pinned (OpenSpec.ofChange meterIdleWrong)

/-- 'fairlaw2.RoadKeeps': WHATEVER THE INPUT: true; the input reads as it did. -/
def roadKeepsSpec : ChangeSpec := { name := "roadKeeps", fn := fun _ => fun
  | [d1, d2, d3] => { results := [.lit (.bool true)], args := [d1, d2, d3] }
  | _ => none }
def roadKeepsRow : OpenClaim := { program := "ytkpmjmgmgkdfnai", sum := "1dec245a8374e8b35a765beea37281247933f2f4ec5f880e0a458dd526bcd07a", func := "fairsluice/fairlaw2.RoadKeeps", spec := "roadKeeps", apart := false }
def RoadKeepsSaid : Prop := roadKeepsRow.holds Try.pinned (OpenSpec.ofChange roadKeepsSpec)

/-- ITS FALSE NEIGHBOUR: 'it returns false'. Refute it at one input. -/
def roadKeepsWrong : ChangeSpec := { name := "roadKeeps", fn := fun _ => fun
  | [d1, d2, d3] => { results := [.lit (.bool false)], args := [d1, d2, d3] }
  | _ => none }
def RoadKeepsWrongFalsely : Prop := roadKeepsRow.holds Try.pinned (OpenSpec.ofChange roadKeepsWrong)

/-- 'fairlaw4.RoadIdle': WHATEVER THE INPUT: true; the input reads as it did. -/
def roadIdleSpec : ChangeSpec := { name := "roadIdle", fn := fun _ => fun
  | [d1, d2, d3] => { results := [.lit (.bool true)], args := [d1, d2, d3] }
  | _ => none }
def roadIdleRow : OpenClaim := { program := "ytkpmjmgmgkdfnai", sum := "1dec245a8374e8b35a765beea37281247933f2f4ec5f880e0a458dd526bcd07a", func := "fairsluice/fairlaw4.RoadIdle", spec := "roadIdle", apart := false }
def RoadIdleSaid : Prop := roadIdleRow.holds Try.pinned (OpenSpec.ofChange roadIdleSpec)

/-- ITS FALSE NEIGHBOUR: 'it returns false'. Refute it at one input. -/
def roadIdleWrong : ChangeSpec := { name := "roadIdle", fn := fun _ => fun
  | [d1, d2, d3] => { results := [.lit (.bool false)], args := [d1, d2, d3] }
  | _ => none }
def RoadIdleWrongFalsely : Prop := roadIdleRow.holds Try.pinned (OpenSpec.ofChange roadIdleWrong)

/- THE SECOND FORM. 'bulk': how many values and letters a reading holds, each counted each time it is reached (what is shared counts as often as it is met; a slice's spare places count too). A statement '..UptoSaid' is the law's where the arguments, and the package variables that the reading takes, are together of bulk at most 1048576: NARROWER than '..Said'. Prove '..Said' where nothing that the law and all that it calls make is longer than what came in: it says more and counts as full. Else prove '..UptoSaid'. A law counts once. -/
mutual
def uptoBulk {H : Type} : DataW H → Nat
  | .lit (.string bytes) => bytes.length + 1
  | .lit _ => 1
  | .nil => 1
  | .ptr d => uptoBulk d + 1
  | .slice elems spare => uptoBulkAll elems + uptoBulkAll spare + 1
  | .agg parts => uptoBulkAll parts + 1
  | .iface _ d => uptoBulk d + 1
  | .map entries => uptoBulkEntries entries + 1
  | .held _ => 1
def uptoBulkAll {H : Type} : List (DataW H) → Nat
  | [] => 0
  | d :: r => uptoBulk d + uptoBulkAll r
def uptoBulkEntries {H : Type} : List (Lit × DataW H) → Nat
  | [] => 0
  | x :: r => uptoBulkEntry x + uptoBulkEntries r
def uptoBulkEntry {H : Type} : Lit × DataW H → Nat
  | (.string bytes, d) => bytes.length + uptoBulk d + 1
  | (_, d) => uptoBulk d + 1
 end
def uptoSmall : (H : Type) → List (DataW H) → Bool := fun _ ds => decide (uptoBulkAll ds ≤ 1048576)
def OpenSpec.upto (s : _root_.Go.ChangeSpec) : _root_.Go.OpenSpec := { _root_.Go.OpenSpec.ofChange s with cond := some uptoSmall }

/-- 'fairtop.TopEvens', WHERE WHAT IT READS IS OF BULK AT MOST 1048576: true; the input reads as it did. -/
def topEvensUptoRow : OpenClaim := { program := "ytkpmjmgmgkdfnai", sum := "1dec245a8374e8b35a765beea37281247933f2f4ec5f880e0a458dd526bcd07a", func := "fairsluice/fairtop.TopEvens", spec := "topEvens", unfollowed := true, recurses := true, apart := false, narrowed := true }
def TopEvensUptoSaid : Prop := topEvensUptoRow.holds Try.pinned (OpenSpec.upto topEvensSpec)

/-- 'fairlaw2.MeterStays', WHERE WHAT IT READS IS OF BULK AT MOST 1048576: true; the input reads as it did. -/
def meterStaysUptoRow : OpenClaim := { program := "ytkpmjmgmgkdfnai", sum := "1dec245a8374e8b35a765beea37281247933f2f4ec5f880e0a458dd526bcd07a", func := "fairsluice/fairlaw2.MeterStays", spec := "meterStays", apart := false, narrowed := true }
def MeterStaysUptoSaid : Prop := meterStaysUptoRow.holds Try.pinned (OpenSpec.upto meterStaysSpec)

/-- 'fairlaw4.MeterIdle', WHERE WHAT IT READS IS OF BULK AT MOST 1048576: true; the input reads as it did. -/
def meterIdleUptoRow : OpenClaim := { program := "ytkpmjmgmgkdfnai", sum := "1dec245a8374e8b35a765beea37281247933f2f4ec5f880e0a458dd526bcd07a", func := "fairsluice/fairlaw4.MeterIdle", spec := "meterIdle", unfollowed := true, recurses := true, apart := false, narrowed := true }
def MeterIdleUptoSaid : Prop := meterIdleUptoRow.holds Try.pinned (OpenSpec.upto meterIdleSpec)

/-- 'fairlaw2.RoadKeeps', WHERE WHAT IT READS IS OF BULK AT MOST 1048576: true; the input reads as it did. -/
def roadKeepsUptoRow : OpenClaim := { program := "ytkpmjmgmgkdfnai", sum := "1dec245a8374e8b35a765beea37281247933f2f4ec5f880e0a458dd526bcd07a", func := "fairsluice/fairlaw2.RoadKeeps", spec := "roadKeeps", apart := false, narrowed := true }
def RoadKeepsUptoSaid : Prop := roadKeepsUptoRow.holds Try.pinned (OpenSpec.upto roadKeepsSpec)

/-- 'fairlaw4.RoadIdle', WHERE WHAT IT READS IS OF BULK AT MOST 1048576: true; the input reads as it did. -/
def roadIdleUptoRow : OpenClaim := { program := "ytkpmjmgmgkdfnai", sum := "1dec245a8374e8b35a765beea37281247933f2f4ec5f880e0a458dd526bcd07a", func := "fairsluice/fairlaw4.RoadIdle", spec := "roadIdle", apart := false, narrowed := true }
def RoadIdleUptoSaid : Prop := roadIdleUptoRow.holds Try.pinned (OpenSpec.upto roadIdleSpec)

end Rows
end Go.Proofs.Ytkpmjmgmgkdfnai
