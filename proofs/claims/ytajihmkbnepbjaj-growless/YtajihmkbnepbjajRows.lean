/-
  No cell of these rows narrows 'for every input' (looked for: loops, veiled, ifaces, maps, wideKeys, modest, calm, conditions, laid).
  DERIVED. THE GIVEN ROWS OF THIS SEAT. 3 by the template 'for every input the law returns true; each argument reads behind the call as it read before'; 0 by the template 'total and deterministic' (their statements: YtajihmkbnepbjajTotals.lean).
  GIVEN WITH THE SEED: the statements are not yours to turn. If you find one false, say at which input.
  Laid BY PROGRAM, IN A SANDBOX (cutbox-rows.mjs): the forced cells as the released guide's own fill.sh prints them over the translation a82ddc58d737af21… (all of the seat's roots in one cut). By AI agents, Wed Nov 11 2026. No macro, syntax, notation, axiom, sorry.
-/
import Derived.Test.YtajihmkbnepbjajChecked
import GoSem.Claim
import GoSem.ClaimJoined
import GoSem.ClaimMapViews
import Derived.JoinedTies
import Derived.KernelRfl
namespace Go.Proofs.Ytajihmkbnepbjaj
/- THE CELL 'sum', in the pinned program and in every row, IS THE sha256 OF THE DUMP (.gsa) THAT YtajihmkbnepbjajProg.lean LOADS. Nothing in Lean hashes anything: it is a label: what it is worth is what the hold of that sum in a sandbox is worth. -/
noncomputable def Try.pinned : Pinned := { name := "ytajihmkbnepbjaj", sum := "a82ddc58d737af219c98e7635ff1e0ab8917141f273fc4796e169ebb4e12cbb6", checked := Try.checked }
namespace Rows
def none {H : Type} : Left H := { results := [], args := [] }

/-- 'fairtop.TopRoad': WHATEVER THE INPUT: true; the input reads as it did. -/
def topRoadSpec : ChangeSpec := { name := "topRoad", fn := fun _ => fun
  | [d1, d2] => { results := [.lit (.bool true)], args := [d1, d2] }
  | _ => none }
def topRoadRow : OpenClaim := { program := "ytajihmkbnepbjaj", sum := "a82ddc58d737af219c98e7635ff1e0ab8917141f273fc4796e169ebb4e12cbb6", func := "fairsluice/fairtop.TopRoad", spec := "topRoad", unfollowed := true, recurses := true, apart := false }
def TopRoadSaid : Prop := topRoadRow.holds Try.pinned (OpenSpec.ofChange topRoadSpec)

/-- ITS FALSE NEIGHBOUR: 'it returns false'. Refute it at one input. -/
def topRoadWrong : ChangeSpec := { name := "topRoad", fn := fun _ => fun
  | [d1, d2] => { results := [.lit (.bool false)], args := [d1, d2] }
  | _ => none }
def TopRoadWrongFalsely : Prop := topRoadRow.holds Try.pinned (OpenSpec.ofChange topRoadWrong)

/-- 'fairlaw2.GrowLess': WHATEVER THE INPUT: true; the input reads as it did. -/
def growLessSpec : ChangeSpec := { name := "growLess", fn := fun _ => fun
  | [d1, d2, d3, d4, d5] => { results := [.lit (.bool true)], args := [d1, d2, d3, d4, d5] }
  | _ => none }
def growLessRow : OpenClaim := { program := "ytajihmkbnepbjaj", sum := "a82ddc58d737af219c98e7635ff1e0ab8917141f273fc4796e169ebb4e12cbb6", func := "fairsluice/fairlaw2.GrowLess", spec := "growLess", unfollowed := true, recurses := true, apart := false }
def GrowLessSaid : Prop := growLessRow.holds Try.pinned (OpenSpec.ofChange growLessSpec)

/-- ITS FALSE NEIGHBOUR: 'it returns false'. Refute it at one input. -/
def growLessWrong : ChangeSpec := { name := "growLess", fn := fun _ => fun
  | [d1, d2, d3, d4, d5] => { results := [.lit (.bool false)], args := [d1, d2, d3, d4, d5] }
  | _ => none }
def GrowLessWrongFalsely : Prop := growLessRow.holds Try.pinned (OpenSpec.ofChange growLessWrong)

/-- 'fairlaw4.GrowSame': WHATEVER THE INPUT: true; the input reads as it did. -/
def growSameSpec : ChangeSpec := { name := "growSame", fn := fun _ => fun
  | [d1, d2, d3] => { results := [.lit (.bool true)], args := [d1, d2, d3] }
  | _ => none }
def growSameRow : OpenClaim := { program := "ytajihmkbnepbjaj", sum := "a82ddc58d737af219c98e7635ff1e0ab8917141f273fc4796e169ebb4e12cbb6", func := "fairsluice/fairlaw4.GrowSame", spec := "growSame", unfollowed := true, recurses := true, apart := false }
def GrowSameSaid : Prop := growSameRow.holds Try.pinned (OpenSpec.ofChange growSameSpec)

/-- ITS FALSE NEIGHBOUR: 'it returns false'. Refute it at one input. -/
def growSameWrong : ChangeSpec := { name := "growSame", fn := fun _ => fun
  | [d1, d2, d3] => { results := [.lit (.bool false)], args := [d1, d2, d3] }
  | _ => none }
def GrowSameWrongFalsely : Prop := growSameRow.holds Try.pinned (OpenSpec.ofChange growSameWrong)

/- THE SECOND FORM. 'bulk': how many values and letters a reading holds, each counted each time it is reached (what is shared counts as often as it is met; a slice's spare places count too). A statement '..UptoSaid' is the law's where the arguments, and the package variables that the reading takes, are together of bulk at most 1048576: NARROWER than '..Said'. Prove '..Said' where nothing that the law and all that it calls make is longer than what came in: it says more and counts as full. Else prove '..UptoSaid'. A law counts once. -/
mutual
def uptoBulk {H : Type} : DataW H → Nat
  | .lit (.string bytes) => bytes.length + 1
  | .lit _ => 1
  | .nil => 1
  | .ptr d => uptoBulk d + 1
  | .slice elems spare => uptoBulkAll elems + uptoBulkAll spare + 1
  | .agg parts => uptoBulkAll parts + 1
  | .iface _ d => uptoBulk d + 1
  | .map entries => uptoBulkEntries entries + 1
  | .held _ => 1
def uptoBulkAll {H : Type} : List (DataW H) → Nat
  | [] => 0
  | d :: r => uptoBulk d + uptoBulkAll r
def uptoBulkEntries {H : Type} : List (Lit × DataW H) → Nat
  | [] => 0
  | x :: r => uptoBulkEntry x + uptoBulkEntries r
def uptoBulkEntry {H : Type} : Lit × DataW H → Nat
  | (.string bytes, d) => bytes.length + uptoBulk d + 1
  | (_, d) => uptoBulk d + 1
 end
def uptoSmall : (H : Type) → List (DataW H) → Bool := fun _ ds => decide (uptoBulkAll ds ≤ 1048576)
def OpenSpec.upto (s : _root_.Go.ChangeSpec) : _root_.Go.OpenSpec := { _root_.Go.OpenSpec.ofChange s with cond := some uptoSmall }

/-- 'fairtop.TopRoad', WHERE WHAT IT READS IS OF BULK AT MOST 1048576: true; the input reads as it did. -/
def topRoadUptoRow : OpenClaim := { program := "ytajihmkbnepbjaj", sum := "a82ddc58d737af219c98e7635ff1e0ab8917141f273fc4796e169ebb4e12cbb6", func := "fairsluice/fairtop.TopRoad", spec := "topRoad", unfollowed := true, recurses := true, apart := false, narrowed := true }
def TopRoadUptoSaid : Prop := topRoadUptoRow.holds Try.pinned (OpenSpec.upto topRoadSpec)

/-- 'fairlaw2.GrowLess', WHERE WHAT IT READS IS OF BULK AT MOST 1048576: true; the input reads as it did. -/
def growLessUptoRow : OpenClaim := { program := "ytajihmkbnepbjaj", sum := "a82ddc58d737af219c98e7635ff1e0ab8917141f273fc4796e169ebb4e12cbb6", func := "fairsluice/fairlaw2.GrowLess", spec := "growLess", unfollowed := true, recurses := true, apart := false, narrowed := true }
def GrowLessUptoSaid : Prop := growLessUptoRow.holds Try.pinned (OpenSpec.upto growLessSpec)

/-- 'fairlaw4.GrowSame', WHERE WHAT IT READS IS OF BULK AT MOST 1048576: true; the input reads as it did. -/
def growSameUptoRow : OpenClaim := { program := "ytajihmkbnepbjaj", sum := "a82ddc58d737af219c98e7635ff1e0ab8917141f273fc4796e169ebb4e12cbb6", func := "fairsluice/fairlaw4.GrowSame", spec := "growSame", unfollowed := true, recurses := true, apart := false, narrowed := true }
def GrowSameUptoSaid : Prop := growSameUptoRow.holds Try.pinned (OpenSpec.upto growSameSpec)

end Rows
end Go.Proofs.Ytajihmkbnepbjaj
