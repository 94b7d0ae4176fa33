/- What package frac's calls answer, as values. -/
import Derived.Test.YtdldgefahgojaakDoorFracB
namespace Go.Proofs.YtdldgefahgojaakDoor
namespace Fr
open Go.RowKit
set_option linter.unusedSimpArgs false
set_option linter.unusedVariables false

/-- a fraction, as a value -/
def frV (t b : Int) : Value := .agg #[.int .i64 t, .int .i64 b]
/-- a fraction and an error, as a call gives them back -/
def pairV (t b k : Int) : Value := .tuple #[.agg #[.int .i64 t, .int .i64 b], errV k]
/-- what 'made' answers: the lowest terms, or that it is too much -/
def madeT (t b : Int) : Int := if mayB (lowT t b) (lowB t b) then lowT t b else 0
def madeB (t b : Int) : Int := if mayB (lowT t b) (lowB t b) then lowB t b else 0
def madeE (t b : Int) : Int := if mayB (lowT t b) (lowB t b) then 0 else 4
end Fr
end Go.Proofs.YtdldgefahgojaakDoor
